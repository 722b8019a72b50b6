/-
  Texts of one proof, in build order: The walk of package asm's Write. | The walk of slices.Equal at numbers that are the same. | What the laws of package code ask of programs: sameProgram, big, tiny. | What the laws of package code ask of programs: sameProgram. | The fact that the laws of package code ask first ('coded'). | The fact that the laws of package asm ask first ('spelt'). | The plain mathematics of chapter 15: however many blanks, and empty lines: the same is read. No walk. | The walk of the laws' helper 'pick': a number below n. | The walk of the law AsmBlind: however many blanks, and empty lines. | A program of instructions that came in: what a walk is told of it. | What the variables that chapter 15's laws list give their walks. | What the variables that the law AsmBlind lists give its walk. | A law's row that lists variables, walked from a world of which it is known that its variables have the shapes that their types say. Of no chapter.
-/
import Derived.Test.YtkeglkneobngnaaGreatDoorU2
import Derived.WalkSpells
import Derived.WalkLawsBesides
import Derived.Deep.QuietTactic
import Derived.BigQuiet
import Derived.Deep.RegionHeld3
import Derived.Deep.DeepCutAuto
import Derived.Deep.CutRange
import Derived.Test.YtkeglkneobngnaaGreatDoorRows
import Derived.WalkKit
import Derived.Lib.Hide
import Derived.Test.YtkeglkneobngnaaGreatDoorUShelf
import Derived.Lib.SplitLaws
import Derived.Lib.Replace
import Derived.Lib.Repeat
import Derived.OpenShut
import Derived.ProofKit
import Derived.Deep.SlicePairs
import Derived.Test.YtkeglkneobngnaaGreatDoorTie
import Derived.PinnedBridge
import Derived.LaidMore
import Derived.Lib.LaidTab
import Derived.MakeChecks
import Derived.Handed
import Derived.HandedShaped
namespace Go.Proofs.YtkeglkneobngnaaGreatDoor
open Go.RowKit Cd As

def nb (l : B) : List Nat := l.map UInt8.toNat
theorem nb_append (a b : B) : nb a ++ nb b = nb (a ++ b) := by simp [nb]
theorem nb_length (l : B) : (nb l).length = l.length := by simp [nb]
theorem nb_bytes (l : B) : Crc.Bytes (nb l) := fun x hx => by
  obtain ⟨c, _, rfl⟩ := List.mem_map.1 hx
  exact c.toNat_lt
theorem bs_stB (l : B) : bs (stB l) = nb l := by
  unfold bs nb stB
  simp
theorem txt_nb (l : B) : txt (nb l) = stB l := by
  rw [← bs_stB, txt_bs]
/-- A prefix of a program's text. -/
theorem asm_pre (p : Pg) {k j : Nat} {f : FnV} (hf : p.fns[k]? = some f) : (globL p ++ 10 :: (p.fns.take k).flatMap fnT ++ (As.headL f ++ [10]) ++ (f.code.take j).flatMap insT).length ≤ (asmT p).length := by
  obtain ⟨hk, rfl⟩ := List.getElem?_eq_some_iff.1 hf
  have e1 : p.fns = p.fns.take k ++ p.fns[k] :: p.fns.drop (k + 1) := by
    rw [List.getElem_cons_drop hk, List.take_append_drop]
  have e2 : p.fns[k].code = p.fns[k].code.take j ++ p.fns[k].code.drop j := (List.take_append_drop _ _).symm
  have e3 : (p.fns.flatMap fnT).length = ((p.fns.take k).flatMap fnT).length + (fnT p.fns[k]).length + ((p.fns.drop (k + 1)).flatMap fnT).length := by
    conv => lhs; rw [e1]
    rw [List.flatMap_append, List.flatMap_cons, List.length_append, List.length_append]
    omega
  have e4 : (p.fns[k].code.flatMap insT).length = ((p.fns[k].code.take j).flatMap insT).length + ((p.fns[k].code.drop j).flatMap insT).length := by
    conv => lhs; rw [e2]
    rw [List.flatMap_append, List.length_append]
  unfold asmT
  simp only [List.length_append, List.length_cons, List.length_nil, e3]
  unfold fnT
  simp only [List.length_append, List.length_cons, e4]
  omega

/-- What Write hands back. -/
def wrT (p : Pg) : ByteArray := if progE p = 0 then stB (asmT p) else stB []
theorem wrT_ok {p : Pg} (h : progE p = 0) : wrT p = stB (asmT p) := if_pos h
theorem wrT_bad {p : Pg} (h : progE p ≠ 0) : wrT p = stB [] := if_neg h
def preL (p : Pg) (k : Nat) : B := globL p ++ 10 :: (p.fns.take k).flatMap fnT
def preI (p : Pg) (k : Nat) (f : FnV) (j : Nat) : B := preL p k ++ (As.headL f ++ [10]) ++ (f.code.take j).flatMap insT
theorem preI_len (p : Pg) {k j : Nat} {f : FnV} (hf : p.fns[k]? = some f) : (preI p k f j).length ≤ (asmT p).length := asm_pre p hf
theorem preI_zero (p : Pg) (k : Nat) (f : FnV) : preI p k f 0 = preL p k ++ (As.headL f ++ [10]) := by simp [preI]
theorem preI_succ (p : Pg) (k : Nat) (f : FnV) {j : Nat} {i : In} (hi : f.code[j]? = some i) : preI p k f (j + 1) = preI p k f j ++ insT i := by
  unfold preI
  rw [List.take_add_one, hi, Option.toList_some, List.flatMap_append, List.flatMap_cons, List.flatMap_nil, List.append_nil]
  simp only [List.append_assoc]
theorem preI_end (p : Pg) {k : Nat} {f : FnV} (hf : p.fns[k]? = some f) : preI p k f f.code.length = preL p (k + 1) := by
  unfold preI preL
  rw [List.take_length, List.take_add_one, hf, Option.toList_some, List.flatMap_append, List.flatMap_cons, List.flatMap_nil, List.append_nil]
  unfold fnT
  simp only [List.append_assoc, List.cons_append, List.nil_append]
theorem preL_zero (p : Pg) : preL p 0 = globL p ++ [10] := rfl
theorem preL_end (p : Pg) : preL p p.fns.length = asmT p := by unfold preL asmT; rw [List.take_length]

set_option maxRecDepth 100000 in
set_option maxHeartbeats 6400000 in
theorem write_any (p : Pg) (v : Value) (w : World) (hp : ProgAt w v p) (hlen : progE p = 0 → (asmT p).length ≤ 1000000) (hv : AsmVars w) (hP : Pow w) :
    Calls Tryz.prog 17 #[v] w fun e w' => e = .returned (.tuple #[.string (wrT p), errV (progE p)]) ∧ Below w.heap.size w w' := by
  have HP := Lib.hid hp
  obtain ⟨vf, rfl, ao, n, cap, rfl, hn, hnc, hcm, hx⟩ := hp
  unfold maxLen at hcm
  have hb0 := (Below.refl w.heap.size w).alloc (Nat.le_refl _) (.cells #[.int .i64 p.globals, .slice ao n cap] 30)
  have HB0 := Lib.hid hb0
  have HN := Lib.hid hn
  have HV := Lib.hid (hv.below hb0)
  have HPW := Lib.hid (hP.below hb0)
  have HX : Hid (∀ W, Below w.heap.size w W → 0 < n → ∃ b o, ao = some ⟨b, o, none⟩ ∧ ∀ i f, p.fns[i]? = some f → FnAt W b (o + i * 4) f) := Lib.hid fun W hW h0 => by
    obtain ⟨b, o, h1, h2, h3⟩ := hx h0
    exact ⟨b, o, h1, fun i f hi => (h3 i f hi).below hW⟩
  have HR := Lib.hid (right_any p _ _ (HP.out.below hb0))
  have HRE : Hid (progE p = 0 ∨ progE p ≠ 0) := Lib.hid (by omega)
  obtain ⟨gl, hgl⟩ : ∃ gl, gl = p.globals := ⟨_, rfl⟩
  have HGL := Lib.hid hgl
  rw [← hgl] at HR HP hb0 HB0 HV HPW ⊢
  have hx0 := cell_of_row (w.alloc (.cells #[.int .i64 gl, .slice ao n cap] 30)) w.heap.size 0 _ _ _ (heap_alloc_new _ _)
  have hx1 := cell_of_row (w.alloc (.cells #[.int .i64 gl, .slice ao n cap] 30)) w.heap.size 1 _ _ _ (heap_alloc_new _ _)
  have hsz1 : w.heap.size < (w.alloc (.cells #[.int .i64 gl, .slice ao n cap] 30)).heap.size := by simp
  have hr9 := HRE.out
  have HLEN := Lib.hid hlen
  clear hx hn hv hP hgl HRE hlen
  go_enter Tryz.func17, Tryz.ntmps17
  go_upto_region 1 with fail
  generalize hW1 : w.alloc (.cells #[.int .i64 gl, .slice ao n cap] 30) = W1 at *
  clear hW1
  have HC : Hid (∀ V, Below W1.heap.size W1 V → V.cell? ⟨w.heap.size, 0, none⟩ = some (.int .i64 gl) ∧ V.cell? ⟨w.heap.size, 1, none⟩ = some (.slice ao n cap)) := Lib.hid fun V hV =>
    ⟨by rw [hV.cell (p := ⟨w.heap.size, 0, none⟩) hsz1]; exact hx0, by rw [hV.cell (p := ⟨w.heap.size, 1, none⟩) hsz1]; exact hx1⟩
  clear hx0 hx1 hb0
  obtain ⟨hx0, hx1⟩ := HC.out _ (Below.refl _ _)
  go_wp2_with fail
  refine HR.out.mono ?_
  rintro e w2 ⟨rfl, hb2⟩
  rcases hr9 with h0 | h0
  · have HPR := Lib.hid ((progE_iff p).1 h0)
    have HE : Hid (wrT p = stB (asmT p) ∧ progE p = 0) := Lib.hid ⟨wrT_ok h0, h0⟩
    have HLE := Lib.hid (HLEN.out h0)
    have hg1 : 0 ≤ gl ∧ gl ≤ 8 := by rw [HGL.out]; exact ⟨HPR.out.globals0, HPR.out.globals⟩
    have hn12 : n ≤ 12 := by rw [HN.out]; exact HPR.out.fns
    rw [h0, errV_0]
    clear hx0 hx1 h0 HLEN HR
    have hb3 := hb2.alloc hb2.size (.cells #[.pointer none, .slice none 0 0] 109)
    have HB3 := Lib.hid hb3
    have HBD := Lib.hid (bld_new w2)
    have HS3 : Hid (W1.heap.size ≤ w2.heap.size) := Lib.hid hb2.size
    have hsz3 : w2.heap.size < (w2.alloc (.cells #[.pointer none, .slice none 0 0] 109)).heap.size := by simp
    obtain ⟨hx0, hx1⟩ := HC.out _ hb3
    go_upto_region 5 with fail
    generalize hw3 : w2.alloc (.cells #[.pointer none, .slice none 0 0] 109) = w3 at *
    generalize hB4 : w2.heap.size = B4 at *
    clear hw3 hB4 hb2 hb3
    have HIT := Lib.hid (itoa_any gl (by omega) (by omega) w3 (HPW.out.below HB3.out))
    have hso : sOf gl = stB (Lib.itoa gl) := rfl
    rw [hso] at HIT
    have hil := itoa_len2 gl hg1.1 (by omega)
    have HG : Hid ((⟨#[103, 108, 111, 98, 97, 108, 115, 32]⟩ : ByteArray) ++ stB (Lib.itoa gl) ++ (⟨#[10]⟩ : ByteArray) = stB (preL p 0)) := Lib.hid (by
      have e1 : (⟨#[103, 108, 111, 98, 97, 108, 115, 32]⟩ : ByteArray) = stB (globB ++ [32]) := rfl
      have e2 : (⟨#[10]⟩ : ByteArray) = stB [10] := rfl
      rw [e1, e2, stB_append, stB_append, preL_zero, HGL.out]
      simp [globL, spaced])
    have hs1 : ¬ 9223372036854775807 < (⟨#[103, 108, 111, 98, 97, 108, 115, 32]⟩ : ByteArray).size + (stB (Lib.itoa gl)).size := by rw [stB_size]; show ¬ 9223372036854775807 < 8 + _; omega
    have hs2 : ¬ 9223372036854775807 < ((⟨#[103, 108, 111, 98, 97, 108, 115, 32]⟩ : ByteArray) ++ stB (Lib.itoa gl)).size + (⟨#[10]⟩ : ByteArray).size := by rw [ByteArray.size_append, stB_size]; show ¬ 9223372036854775807 < 8 + _ + 1; omega
    have HGS : Hid ((preL p 0).length ≤ 100) := Lib.hid (by
      have := congrArg ByteArray.size HG.out
      rw [stB_size, ByteArray.size_append, ByteArray.size_append, stB_size] at this
      have e1 : (⟨#[103, 108, 111, 98, 97, 108, 115, 32]⟩ : ByteArray).size = 8 := rfl
      have e2 : (⟨#[10]⟩ : ByteArray).size = 1 := rfl
      omega)
    generalize stB (Lib.itoa gl) = t at *
    clear hso hil
    go_wp2_with fail
    refine HIT.out.mono ?_
    rintro e w4 ⟨rfl, hb4⟩
    have HB4 := Lib.hid (HB3.out.trans (hb4.mono HB3.out.size))
    have HBD4 := Lib.hid (HBD.out.below hb4)
    have hB4 : B4 ≤ w4.heap.size := by have := hb4.size; omega
    have HWS := Lib.hid (writeString_any B4 B4 [] (stB (preL p 0)) w4 HBD4.out (by rw [stB_size]; have := HGS.out; simp; omega) hB4)
    obtain ⟨hx0, hx1⟩ := HC.out _ HB4.out
    clear hb4 HIT HBD HBD4
    go_wp2_with fail
    rw [HG.out]
    refine HWS.out.mono ?_
    rintro e w5 ⟨rfl, hbd5, hb5⟩
    have HB5 := Lib.hid (HB4.out.trans (hb5.mono HS3.out))
    have HBD5 : Hid (Bld B4 B4 (nb (preL p 0)) w5) := Lib.hid (by rw [List.nil_append, bs_stB] at hbd5; exact hbd5)
    have hB5 : B4 ≤ w5.heap.size := Nat.le_trans hB4 hb5.size
    clear hbd5 hb5 HWS HB4 hx0 hx1 hB4 HB3 hsz3 HG hs1 hs2
    obtain ⟨hx0, hx1⟩ := HC.out _ HB5.out
    go_wp2_with fail
    go_loopw [24] (fun iv wr => ∃ k : Nat, k ≤ n ∧ iv = .int .i64 k ∧ Bld B4 B4 (nb (preL p k)) wr ∧ Below W1.heap.size W1 wr ∧ B4 ≤ wr.heap.size) (fun iv _ => n - (intOf iv).toNat)
    case atStart => exact ⟨0, Nat.zero_le _, rfl, HBD5.out, HB5.out, hB5⟩
    case round =>
      obtain ⟨k, hk, rfl, hbd, hbel, hle⟩ := hrel
      rename World => wr
      have HBD := Lib.hid hbd
      have HB := Lib.hid hbel
      clear hbd hbel HBD5 HB5 hB5 hx0 hx1
      by_cases hkn : k < n
      · obtain ⟨b, o, rfl, hfn⟩ := HX.out w (Below.refl _ _) (by omega)
        have hbr : Below w.heap.size w wr := HB0.out.trans (HB.out.mono HB0.out.size)
        have hkr := keeps_none hbr
        have hkl : k < p.fns.length := by rw [← HN.out]; exact hkn
        obtain ⟨f, hf⟩ : ∃ f, p.fns[k]? = some f := ⟨_, List.getElem?_eq_getElem hkl⟩
        obtain ⟨hc1, ⟨vl, hc2, hli⟩, hc3, vc, hc4, hci⟩ := hfn k f hf
        have HF := Lib.hid hf
        replace hc1 := hkr.cell_of hc1 id
        replace hc2 := hkr.cell_of hc2 id
        replace hc3 := hkr.cell_of hc3 id
        replace hc4 := hkr.cell_of hc4 id
        have HLI := Lib.hid (hli.below hbr)
        have HFR : Hid (FnR f) := Lib.hid (HPR.out.each f (List.mem_of_getElem? hf))
        have hi1 : (k : Int) < (n : Int) := by omega
        clear hfn hf hkl hli hkr hbr
        obtain ⟨pa, hpa⟩ : ∃ x, x = f.params := ⟨_, rfl⟩
        obtain ⟨ki, hki⟩ : ∃ x, x = f.kind := ⟨_, rfl⟩
        rw [← hpa] at hc1
        rw [← hki] at hc3
        have hal := (Below.refl wr.heap.size wr).alloc (Nat.le_refl _) (.cells #[.int .i64 pa, vl, .int .i64 ki, vc] 72)
        have HBA := Lib.hid (HB.out.trans (hal.mono HB.out.size))
        have HHD : Hid (Calls Tryz.prog 54 #[.agg #[.int .i64 pa, vl, .int .i64 ki, vc]] (wr.alloc (.cells #[.int .i64 pa, vl, .int .i64 ki, vc] 72)) fun e w' => e = .returned (.string (stB (As.headL f ++ [10]))) ∧ Below (wr.alloc (.cells #[.int .i64 pa, vl, .int .i64 ki, vc] 72)).heap.size (wr.alloc (.cells #[.int .i64 pa, vl, .int .i64 ki, vc] 72)) w') := Lib.hid (by
          have := headLine_any f vl vc (wr.alloc (.cells #[.int .i64 pa, vl, .int .i64 ki, vc] 72)) HFR.out (HLI.out.below hal) (HV.out.below HBA.out) (HPW.out.below HBA.out)
          rw [← hpa, ← hki] at this
          exact this)
        obtain ⟨a2, m, c2, hvc, hm, hmc, hcm2, hx2⟩ := hci
        unfold maxLen at hcm2
        subst hvc
        have HM := Lib.hid hm
        have HX2 : Hid (∀ W, Below w.heap.size w W → 0 < m → ∃ b o, a2 = some ⟨b, o, none⟩ ∧ ∀ i x, f.code[i]? = some x → W.cell? ⟨b, o + i * 2, none⟩ = some (.int .i64 x.1) ∧ W.cell? ⟨b, o + i * 2 + 1, none⟩ = some (.int .i64 x.2)) := Lib.hid fun W hW h0 => by
          obtain ⟨b, o, h1, h2, h3⟩ := hx2 h0
          refine ⟨b, o, h1, fun i x hi => ?_⟩
          rw [hW.cell (p := ⟨b, o + i * 2, none⟩) h2, hW.cell (p := ⟨b, o + i * 2 + 1, none⟩) h2]
          exact h3 i x hi
        have HXB : Hid ((wr.alloc (.cells #[.int .i64 pa, vl, .int .i64 ki, .slice a2 m c2] 72)).heap[wr.heap.size]? = some (.cells #[.int .i64 pa, vl, .int .i64 ki, .slice a2 m c2] 72 (0, 0))) := Lib.hid (heap_alloc_new _ _)
        have hy0 : (wr.alloc (.cells #[.int .i64 pa, vl, .int .i64 ki, .slice a2 m c2] 72)).cell? ⟨wr.heap.size, 0, none⟩ = some (.int .i64 pa) := cell_of_row _ _ _ _ _ _ (heap_alloc_new _ _)
        have hy1 : (wr.alloc (.cells #[.int .i64 pa, vl, .int .i64 ki, .slice a2 m c2] 72)).cell? ⟨wr.heap.size, 1, none⟩ = some vl := cell_of_row _ _ _ _ _ _ (heap_alloc_new _ _)
        have hy2 : (wr.alloc (.cells #[.int .i64 pa, vl, .int .i64 ki, .slice a2 m c2] 72)).cell? ⟨wr.heap.size, 2, none⟩ = some (.int .i64 ki) := cell_of_row _ _ _ _ _ _ (heap_alloc_new _ _)
        have hy3 : (wr.alloc (.cells #[.int .i64 pa, vl, .int .i64 ki, .slice a2 m c2] 72)).cell? ⟨wr.heap.size, 3, none⟩ = some (.slice a2 m c2) := cell_of_row _ _ _ _ _ _ (heap_alloc_new _ _)
        have HBD1 := Lib.hid (HBD.out.below hal)
        have HNE : Hid (wr.heap.size ≠ B4) := Lib.hid (by
          have : B4 < wr.heap.size := by
            rcases HBD.out with ⟨_, v, h, _⟩ | ⟨_, v, h, _⟩
            · exact (Array.getElem?_eq_some_iff.1 h).1
            · exact (Array.getElem?_eq_some_iff.1 h).1
          omega)
        obtain ⟨a1, n1, c1, hvl, -⟩ := HLI.out
        subst hvl
        clear hx2 hm hpa hki
        go_upto_region 9 with fail
        have HAL := Lib.hid hal
        generalize hwa : wr.alloc (.cells #[.int .i64 pa, .slice a1 n1 c1, .int .i64 ki, .slice a2 m c2] 72) = wa at *
        have hla : B4 ≤ wa.heap.size := Nat.le_trans hle hal.size
        generalize hxb : wr.heap.size = xb at *
        clear hwa hal hc1 hc2 hc3 hc4
        go_wp2_with fail
        refine HHD.out.mono ?_
        rintro e w6 ⟨rfl, hb6⟩
        have HB6 := Lib.hid (HBA.out.trans (hb6.mono HBA.out.size))
        have HBD6 := Lib.hid (HBD1.out.below hb6)
        have HK6 : Hid (KeptX B4 wa w6) := Lib.hid (KeptX.below hb6)
        have hl6 : B4 ≤ w6.heap.size := Nat.le_trans hla hb6.size
        have HP0 := Lib.hid (preI_zero p k f)
        have hlen6 : (nb (preL p k)).length + (stB (As.headL f ++ [10])).size ≤ 1000000 := by
          have h1 := preI_len p (j := 0) HF.out
          rw [HP0.out, List.length_append] at h1
          have h2 := HLE.out
          rw [nb_length, stB_size]
          omega
        have HWS := Lib.hid (writeStringK_any B4 B4 _ (stB (As.headL f ++ [10])) w6 HBD6.out hlen6 hl6)
        rw [bs_stB, nb_append, ← HP0.out] at HWS
        clear hb6 HHD HBD1 HBD6 hy0 hy1 hy2 hlen6 hla
        generalize stB (As.headL f ++ [10]) = t6 at *
        go_wp2_with fail
        refine HWS.out.mono ?_
        rintro e w7 ⟨rfl, hbd7, hb7, hk7⟩
        have hy3 : w7.cell? ⟨xb, 3, none⟩ = some (.slice a2 m c2) := by
          rw [(HK6.out.trans hk7).cell HNE.out (by decide) HXB.out]
          exact hy3
        have HB7 := Lib.hid (HB6.out.trans (hb7.mono (Nat.le_trans HS3.out (Nat.le_refl _))))
        have HBD7 := Lib.hid hbd7
        have hl7 : B4 ≤ w7.heap.size := Nat.le_trans hl6 hb7.size
        clear hbd7 hb7 hk7 HWS HB6 HK6 hl6
        go_wp2_with fail
        go_loopw [34] (fun iv wq => ∃ j : Nat, j ≤ m ∧ iv = .int .i64 j ∧ Bld B4 B4 (nb (preI p k f j)) wq ∧ Below W1.heap.size W1 wq ∧ B4 ≤ wq.heap.size) (fun iv _ => m - (intOf iv).toNat)
        case atStart => exact ⟨0, Nat.zero_le _, rfl, HBD7.out, HB7.out, hl7⟩
        case round =>
          obtain ⟨j, hj, rfl, hbd, hbel, hle9⟩ := hrel
          rename World => wq
          have HBQ := Lib.hid hbd
          have HQ := Lib.hid hbel
          clear hbd hbel HBD7 HB7 hl7 hy3
          by_cases hjm : j < m
          · obtain ⟨b9, o9, rfl, hcell⟩ := HX2.out wq (HB0.out.trans (HQ.out.mono HB0.out.size)) (by omega)
            have hjl : j < f.code.length := by rw [← HM.out]; exact hjm
            obtain ⟨i, hi⟩ : ∃ i, f.code[j]? = some i := ⟨_, List.getElem?_eq_getElem hjl⟩
            obtain ⟨hd1, hd2⟩ := hcell j i hi
            have HMB := Lib.hid (HFR.out.ins i (List.mem_of_getElem? hi))
            have HPS := Lib.hid (preI_succ p k f hi)
            have hji : (j : Int) < (m : Int) := by omega
            clear hcell hjl hi
            obtain ⟨op, nn⟩ := i
            dsimp only at hd1 hd2
            have hal9 := (Below.refl wq.heap.size wq).alloc (Nat.le_refl _) (.cells #[.int .i64 op, .int .i64 nn] 75)
            have HQA := Lib.hid (HQ.out.trans (hal9.mono HQ.out.size))
            have HIL := Lib.hid (insLine_any (op, nn) (wq.alloc (.cells #[.int .i64 op, .int .i64 nn] 75)) HMB.out (HV.out.below HQA.out) (HPW.out.below HQA.out))
            have HBQ1 := Lib.hid (HBQ.out.below hal9)
            have hz0 : (wq.alloc (.cells #[.int .i64 op, .int .i64 nn] 75)).cell? ⟨wq.heap.size, 0, none⟩ = some (.int .i64 op) := cell_of_row _ _ _ _ _ _ (heap_alloc_new _ _)
            have hz1 : (wq.alloc (.cells #[.int .i64 op, .int .i64 nn] 75)).cell? ⟨wq.heap.size, 1, none⟩ = some (.int .i64 nn) := cell_of_row _ _ _ _ _ _ (heap_alloc_new _ _)
            have hl8 : B4 ≤ (wq.alloc (.cells #[.int .i64 op, .int .i64 nn] 75)).heap.size := Nat.le_trans hle9 hal9.size
            go_upto_region 13 with fail
            generalize hwqa : wq.alloc (.cells #[.int .i64 op, .int .i64 nn] 75) = wqa at *
            generalize hxq : wq.heap.size = xq at *
            clear hwqa hxq hal9 hd1 hd2
            go_wp2_with fail
            refine HIL.out.mono ?_
            rintro e w8 ⟨rfl, hb8⟩
            have HB8 := Lib.hid (HQA.out.trans (hb8.mono HQA.out.size))
            have HBQ8 := Lib.hid (HBQ1.out.below hb8)
            have hl9 : B4 ≤ w8.heap.size := Nat.le_trans hl8 hb8.size
            have hlen8 : (nb (preI p k f j)).length + (stB (insT (op, nn))).size ≤ 1000000 := by
              have h1 := preI_len p (j := j + 1) HF.out
              rw [HPS.out, List.length_append] at h1
              have h2 := HLE.out
              rw [nb_length, stB_size]
              omega
            have HWS := Lib.hid (writeString_any B4 B4 _ (stB (insT (op, nn))) w8 HBQ8.out hlen8 hl9)
            rw [bs_stB, nb_append, ← HPS.out] at HWS
            clear hb8 HIL HBQ1 HBQ8 hz0 hz1 hlen8 hl8
            generalize stB (insT (op, nn)) = t8 at *
            go_wp2_with fail
            refine HWS.out.mono ?_
            rintro e w9 ⟨rfl, hbd9, hb9⟩
            have HBD9 := Lib.hid hbd9
            have HB9 := Lib.hid (HB8.out.trans (hb9.mono HS3.out))
            have hl10 : B4 ≤ w9.heap.size := Nat.le_trans hl9 hb9.size
            clear hbd9 hb9 HWS HB8
            go_wp2_with fail
            go_roundw
            case rel => exact ⟨j + 1, by omega, by go_num, HBD9.out, HB9.out, hl10⟩
            case measure => simp [intOf]; omega
          · obtain rfl : j = m := by omega
            have HPE := Lib.hid (preI_end p HF.out)
            have HBD9 : Hid (Bld B4 B4 (nb (preL p (k + 1))) wq) := Lib.hid (by
              have := HBQ.out
              rw [HM.out, HPE.out] at this
              exact this)
            clear HX2
            go_wp2_with fail
            go_roundw
            case rel => exact ⟨k + 1, by omega, by go_num, HBD9.out, HQ.out, hle9⟩
            case measure => simp [intOf]; omega
      · obtain rfl : k = n := by omega
        have HSE : Hid (Bld B4 B4 (nb (asmT p)) wr) := Lib.hid (by
          have := HBD.out
          rw [HN.out, preL_end] at this
          exact this)
        have HST := Lib.hid (bldString_any B4 B4 _ wr HSE.out (nb_bytes _) hle)
        rw [txt_nb] at HST
        clear HX
        go_wp2_with fail
        refine HST.out.mono ?_
        rintro e w9 ⟨rfl, hb9⟩
        go_wp2_with fail
        go_ret2
        exact ⟨by rw [HE.out.1, HE.out.2]; rfl, HB0.out.trans ((HB.out.trans (hb9.mono HS3.out)).mono HB0.out.size)⟩
  · have HE : Hid (wrT p = stB [] ∧ progE p ≠ 0) := Lib.hid ⟨wrT_bad h0, h0⟩
    rw [errV_nz h0]
    clear h0
    go_wp2_with fail
    go_ret2
    exact ⟨by rw [HE.out.1, errV_nz HE.out.2]; rfl, HB0.out.trans (hb2.mono HB0.out.size)⟩
end Go.Proofs.YtkeglkneobngnaaGreatDoor

namespace Go.Proofs.YtkeglkneobngnaaGreatDoor
open Go.RowKit

set_option maxRecDepth 100000 in
set_option maxHeartbeats 1600000 in
theorem equalI_any (v u : Value) (l : List Int) (w : World) (hv : IntsAt w v l) (hu : IntsAt w u l) :
    Calls Tryz.prog 62 #[v, u] w fun e w' => e = .returned (.bool true) ∧ ∃ n, w' = w.drewN n := by
  obtain ⟨ao, n, cap, rfl, hn, hnc, hcm, hx⟩ := hv
  obtain ⟨ao2, n2, cap2, rfl, hn2, hnc2, hcm2, hx2⟩ := hu
  obtain rfl : n2 = n := by omega
  unfold maxLen at hcm hcm2
  have HX := Lib.hid hx
  have HX2 := Lib.hid hx2
  clear hx hx2 hn hn2
  go_enter Tryz.func62, Tryz.ntmps62
  go_wp2_with fail
  go_loopw [13] (fun i wr => ∃ (k m : Nat), k ≤ n2 ∧ i = .int .i64 k ∧ wr = w.drewN m) (fun i _ => n2 - (intOf i).toNat)
  case atStart => exact ⟨0, 0, Nat.zero_le _, rfl, rfl⟩
  case round =>
    obtain ⟨k, m, hk, rfl, rfl⟩ := hrel
    by_cases hkn : k < n2
    · obtain ⟨b, o, rfl, hbl, hcell⟩ := HX.out (by omega)
      obtain ⟨b2, o2, rfl, hbl2, hcell2⟩ := HX2.out (by omega)
      have hc1 := hcell k hkn
      have hd1 := hcell2 k hkn
      have hi1 : (0 : Int) ≤ (k : Int) ∧ (k : Int) < (n2 : Int) := by omega
      have hi2 : (k : Int) < (n2 : Int) := by omega
      clear hcell hcell2
      generalize l.getD k 0 = x at *
      go_wp2_with fail
      go_quiet (fail)
      go_wp2_with fail
      go_roundw
      case rel => exact ⟨k + 1, _, by omega, by go_num, rfl⟩
      case measure => simp [intOf]; omega
    · obtain rfl : k = n2 := by omega
      go_wp2_with fail
      go_ret
      exact ⟨rfl, _, rfl⟩
end Go.Proofs.YtkeglkneobngnaaGreatDoor

namespace Go.Proofs.YtkeglkneobngnaaGreatDoor
open Go.RowKit Cd

theorem InsAt.at {w : World} {v : Value} {l : List In} (h : InsAt w v l) : ∃ ao cap, v = .slice ao l.length cap ∧ l.length ≤ cap ∧ cap ≤ maxLen ∧ ∀ i x, l[i]? = some x → ∃ b o, ao = some ⟨b, o, none⟩ ∧ w.cell? ⟨b, o + i * 2, none⟩ = some (.int .i64 x.1) ∧ w.cell? ⟨b, o + i * 2 + 1, none⟩ = some (.int .i64 x.2) := by
  obtain ⟨ao, n, cap, rfl, rfl, hc, hm, hx⟩ := h
  refine ⟨ao, cap, rfl, hc, hm, fun i x hi => ?_⟩
  obtain ⟨b, o, h1, _, h3⟩ := hx (by have := (List.getElem?_eq_some_iff.1 hi).1; omega)
  exact ⟨b, o, h1, (h3 i x hi).1, (h3 i x hi).2⟩

set_option maxRecDepth 100000 in
set_option maxHeartbeats 1600000 in
theorem equalN_any (v u : Value) (l : List In) (w : World) (hv : InsAt w v l) (hu : InsAt w u l) :
    Calls Tryz.prog 63 #[v, u] w fun e w' => e = .returned (.bool true) ∧ ∃ n, w' = w.drewN n := by
  obtain ⟨a1, k1, rfl, hc1, hm1, h1⟩ := hv.at
  obtain ⟨a2, k2, rfl, hc2, hm2, h2⟩ := hu.at
  have H1 := Lib.hid h1
  have H2 := Lib.hid h2
  obtain ⟨n, hn⟩ : ∃ n, n = l.length := ⟨_, rfl⟩
  have HN := Lib.hid hn
  rw [← hn] at hc1 hc2 ⊢
  unfold maxLen at hm1
  clear hn hm2 h1 h2 hv hu
  go_enter Tryz.func63, Tryz.ntmps63
  go_wp2_with fail
  go_loopw [13] (fun i wr => ∃ (k m : Nat), k ≤ n ∧ i = .int .i64 k ∧ wr = w.drewN m) (fun i _ => n - (intOf i).toNat)
  case atStart => exact ⟨0, 0, Nat.zero_le _, rfl, rfl⟩
  case round =>
    obtain ⟨i, m, hi, rfl, rfl⟩ := hrel
    by_cases hin : i < n
    · obtain ⟨⟨x, y⟩, hx⟩ : ∃ x, l[i]? = some x := ⟨_, List.getElem?_eq_getElem (by rw [← HN.out]; exact hin)⟩
      obtain ⟨b1, o1, e1, g0, g1⟩ := H1.out i _ hx
      obtain ⟨b2, o2, e2, g3, g4⟩ := H2.out i _ hx
      subst e1 e2
      simp only at g0 g1 g3 g4
      have hii : (0 : Int) ≤ (i : Int) ∧ (i : Int) < (n : Int) := by omega
      clear hx H1 H2
      go_wp2_with fail
      go_quiet (fail)
      go_wp2_with fail
      go_roundw
      case rel => exact ⟨i + 1, _, by omega, by go_num, rfl⟩
      case measure => simp [intOf]; omega
    · obtain rfl : i = n := by omega
      have hnn : ¬ (i : Int) < (i : Int) := by omega
      go_wp2_with fail
      go_ret
      exact ⟨rfl, _, rfl⟩
theorem below_drewK {B : Nat} {a w : World} (h : Below B a w) (n : Nat) : Below B a (w.drewN n) := ⟨h.os, h.tape, h.output, h.size, h.block⟩

/-- Whether a program is too big to be held. -/
def bigB (p : Pg) : Bool := decide (14 < p.fns.length) || p.fns.any fun f => decide (14 < f.locals.length) || decide (120 < f.code.length)
theorem big_no {p : Pg} (h : bigB p = false) : p.fns.length ≤ 14 ∧ ∀ f ∈ p.fns, f.locals.length ≤ 14 ∧ f.code.length ≤ 120 := by
  unfold bigB at h
  rw [Bool.or_eq_false_iff] at h
  refine ⟨by simpa using h.1, fun f hf => ?_⟩
  have h2 := h.2
  rw [List.any_eq_false] at h2
  have := h2 f hf
  simp at this
  exact this
theorem big_at {p : Pg} {k : Nat} {f : FnV} (hf : p.fns[k]? = some f) (h : 14 < f.locals.length ∨ 120 < f.code.length) : bigB p = true := by
  unfold bigB
  rw [Bool.or_eq_true, List.any_eq_true]
  exact Or.inr ⟨f, List.mem_of_getElem? hf, by simpa using h⟩
theorem big_all {p : Pg} (h0 : p.fns.length ≤ 14) (h : ∀ (k : Nat) f, p.fns[k]? = some f → ¬ (14 < f.locals.length ∨ 120 < f.code.length)) : bigB p = false := by
  unfold bigB
  rw [Bool.or_eq_false_iff, List.any_eq_false]
  refine ⟨by simpa using h0, fun f hf => ?_⟩
  obtain ⟨k, hk, rfl⟩ := List.mem_iff_getElem.1 hf
  have := h k _ (List.getElem?_eq_getElem hk)
  simp
  omega

set_option maxRecDepth 100000 in
set_option maxHeartbeats 3200000 in
theorem big_any (p : Pg) (v : Value) (w : World) (hp : ProgAt w v p) :
    Calls Tryz.prog 16 #[v] w fun e w' => e = .returned (.bool (bigB p)) ∧ Below w.heap.size w w' := by
  obtain ⟨vf, rfl, ao, n, cap, rfl, hn, hnc, hcm, hx⟩ := hp
  unfold maxLen at hcm
  have hb0 := (Below.refl w.heap.size w).alloc (Nat.le_refl _) (.cells #[.int .i64 p.globals, .slice ao n cap] 30)
  have HB0 := Lib.hid hb0
  have HN := Lib.hid hn
  have HX : Hid (0 < n → ∃ b o, ao = some ⟨b, o, none⟩ ∧ ∀ i f, p.fns[i]? = some f → FnAt (w.alloc (.cells #[.int .i64 p.globals, .slice ao n cap] 30)) b (o + i * 4) f) := Lib.hid fun h0 => by
    obtain ⟨b, o, h1, h2, h3⟩ := hx h0
    exact ⟨b, o, h1, fun i f hi => (h3 i f hi).below hb0⟩
  obtain ⟨gl, hgl⟩ : ∃ gl, gl = p.globals := ⟨_, rfl⟩
  rw [← hgl] at HX HB0 ⊢
  have hx1 := cell_of_row (w.alloc (.cells #[.int .i64 gl, .slice ao n cap] 30)) w.heap.size 1 _ _ _ (heap_alloc_new _ _)
  clear hb0 hx hn hgl
  go_enter Tryz.func16, Tryz.ntmps16
  by_cases h14 : 14 < n
  · have h14i : (14 : Int) < (n : Int) := by omega
    have HBT : Hid (bigB p = true) := Lib.hid (by unfold bigB; rw [← HN.out, decide_eq_true h14]; rfl)
    go_wp2_with fail
    go_ret
    exact ⟨by rw [HBT.out]; rfl, HB0.out⟩
  have h14i : ¬ (14 : Int) < (n : Int) := by omega
  go_upto_region 1 with fail
  generalize w.alloc (.cells #[.int .i64 gl, .slice ao n cap] 30) = W1 at *
  have hx1' : W1.cell? ⟨w.heap.size, 1, none⟩ = some (.slice ao n cap) := hx1
  clear hx1
  go_wp2_with fail
  go_loopw [3] (fun iv wr => ∃ k : Nat, k ≤ n ∧ iv = .int .i64 k ∧ Hid (∀ (j : Nat) f, j < k → p.fns[j]? = some f → ¬ (14 < f.locals.length ∨ 120 < f.code.length)) ∧ wr = W1) (fun iv _ => n - (intOf iv).toNat)
  case atStart => exact ⟨0, Nat.zero_le _, rfl, Lib.hid (fun _ _ h => absurd h (Nat.not_lt_zero _)), rfl⟩
  case round =>
    obtain ⟨k, hk, rfl, hall, hwr⟩ := hrel
    subst hwr
    by_cases hkn : k < n
    · obtain ⟨b, o, rfl, hfn⟩ := HX.out (by omega)
      obtain ⟨f, hf⟩ : ∃ f, p.fns[k]? = some f := ⟨_, List.getElem?_eq_getElem (by rw [← HN.out]; exact hkn)⟩
      obtain ⟨hc1, ⟨vl, hc2, a1, n1, c1, rfl, hn1, hnc1, hcm1, -⟩, hc3, vc, hc4, a2, n2, c2, rfl, hn2, hnc2, hcm2, -⟩ := hfn k f hf
      have HF := Lib.hid hf
      have HNN : Hid (n1 = f.locals.length ∧ n2 = f.code.length) := Lib.hid ⟨hn1, hn2⟩
      have hi1 : (0 : Int) ≤ (k : Int) ∧ (k : Int) < (n : Int) := by omega
      unfold maxLen at hcm1 hcm2
      clear hfn hf hn1 hn2 hc1 hc3 HX
      by_cases g1 : 14 < n1
      · have g1i : (14 : Int) < (n1 : Int) := by omega
        have HBT : Hid (bigB p = true) := Lib.hid (big_at HF.out (Or.inl (by rw [← HNN.out.1]; exact g1)))
        go_wp2_with fail
        go_ret
        exact ⟨by rw [HBT.out]; rfl, HB0.out⟩
      · have g1i : ¬ (14 : Int) < (n1 : Int) := by omega
        by_cases g2 : 120 < n2
        · have g2i : (120 : Int) < (n2 : Int) := by omega
          have HBT : Hid (bigB p = true) := Lib.hid (big_at HF.out (Or.inr (by rw [← HNN.out.2]; exact g2)))
          go_wp2_with fail
          go_ret
          exact ⟨by rw [HBT.out]; rfl, HB0.out⟩
        · have g2i : ¬ (120 : Int) < (n2 : Int) := by omega
          have HK : Hid (∀ (j : Nat) f, j < k + 1 → p.fns[j]? = some f → ¬ (14 < f.locals.length ∨ 120 < f.code.length)) := Lib.hid fun j f' hj hf' => by
            by_cases e : j = k
            · subst e
              rw [HF.out] at hf'
              cases hf'
              rw [← HNN.out.1, ← HNN.out.2]
              omega
            · exact hall.out j f' (by omega) hf'
          clear hall
          go_wp2_with fail
          go_roundw
          case rel => exact ⟨k + 1, by omega, by go_num, HK, trivial⟩
          case measure => simp [intOf]; omega
    · obtain rfl : k = n := by omega
      have HBF : Hid (bigB p = false) := Lib.hid (big_all (by rw [← HN.out]; omega) fun j f hf => hall.out j f (by have := (List.getElem?_eq_some_iff.1 hf).1; rw [HN.out]; exact this) hf)
      have hkk : ¬ (k : Int) < (k : Int) := by omega
      clear hall HX
      go_wp2_with fail
      go_ret
      exact ⟨by rw [HBF.out]; rfl, HB0.out⟩
end Go.Proofs.YtkeglkneobngnaaGreatDoor

namespace Go.Proofs.YtkeglkneobngnaaGreatDoor
open Go.RowKit Cd

/-- Two functions in blocks of their own. -/
def TwoF (w wx : World) (v6 v7 pa vl1 ki vc1 vl2 vc2 : Value) : Prop :=
  ∃ b1 b2, v6 = .pointer (some ⟨b1, 0, none⟩) ∧ v7 = .pointer (some ⟨b2, 0, none⟩) ∧ wx.cell? ⟨b1, 0, none⟩ = some pa ∧ wx.cell? ⟨b1, 1, none⟩ = some vl1 ∧ wx.cell? ⟨b1, 2, none⟩ = some ki ∧ wx.cell? ⟨b1, 3, none⟩ = some vc1 ∧
    wx.cell? ⟨b2, 0, none⟩ = some pa ∧ wx.cell? ⟨b2, 1, none⟩ = some vl2 ∧ wx.cell? ⟨b2, 2, none⟩ = some ki ∧ wx.cell? ⟨b2, 3, none⟩ = some vc2 ∧ Below w.heap.size w wx

theorem two_cells (wr : World) (X Y : Array Value) (t : TypeId) :
    (∀ (j : Nat) u, X[j]? = some u → ((wr.alloc (.cells X t)).alloc (.cells Y t)).drew.cell? ⟨wr.heap.size, j, none⟩ = some u) ∧ (∀ (j : Nat) u, Y[j]? = some u → ((wr.alloc (.cells X t)).alloc (.cells Y t)).drew.cell? ⟨wr.heap.size + 1, j, none⟩ = some u) ∧
    Below wr.heap.size wr ((wr.alloc (.cells X t)).alloc (.cells Y t)).drew := by
  refine ⟨fun j u hj => ?_, fun j u hj => ?_, (((Below.refl wr.heap.size wr).alloc (Nat.le_refl _) _).alloc (by simp) _).drew⟩
  · have h1 := cell_of_row (wr.alloc (.cells X t)) wr.heap.size j _ _ _ (heap_alloc_new _ _)
    exact ((Keeps.refl (fun _ : Nat => False) _).alloc _).drew.cell_of (h1.trans hj) id
  · have h1 := cell_of_row ((wr.alloc (.cells X t)).alloc (.cells Y t)) (wr.alloc (.cells X t)).heap.size j _ _ _ (heap_alloc_new _ _)
    rw [show (wr.alloc (.cells X t)).heap.size = wr.heap.size + 1 by simp] at h1
    exact h1.trans hj

set_option maxRecDepth 100000 in
set_option maxHeartbeats 6400000 in
theorem sameP_any (p : Pg) (v u : Value) (w : World) (hp : ProgAt w v p) (hu : ProgAt w u p) :
    Calls Tryz.prog 21 #[v, u] w fun e w' => e = .returned (.bool true) ∧ Below w.heap.size w w' := by
  obtain ⟨vf, rfl, ao, n, cap, rfl, hn, hnc, hcm, hx⟩ := hp
  obtain ⟨uf, rfl, ao2, n2, cap2, rfl, hn2, hnc2, hcm2, hx2⟩ := hu
  obtain rfl : n2 = n := by omega
  unfold maxLen at hcm hcm2
  have hb0 := ((Below.refl w.heap.size w).alloc (Nat.le_refl _) (.cells #[.int .i64 p.globals, .slice ao n2 cap] 30)).alloc (by simp) (.cells #[.int .i64 p.globals, .slice ao2 n2 cap2] 30)
  have HB0 := Lib.hid hb0
  have HN := Lib.hid hn
  have HX : Hid (∀ W, Below w.heap.size w W → 0 < n2 → ∃ b o, ao = some ⟨b, o, none⟩ ∧ b < w.heap.size ∧ ∀ i f, p.fns[i]? = some f → FnAt W b (o + i * 4) f) := Lib.hid fun W hW h0 => by
    obtain ⟨b, o, h1, h2, h3⟩ := hx h0
    exact ⟨b, o, h1, h2, fun i f hi => (h3 i f hi).below hW⟩
  have HX2 : Hid (∀ W, Below w.heap.size w W → 0 < n2 → ∃ b o, ao2 = some ⟨b, o, none⟩ ∧ b < w.heap.size ∧ ∀ i f, p.fns[i]? = some f → FnAt W b (o + i * 4) f) := Lib.hid fun W hW h0 => by
    obtain ⟨b, o, h1, h2, h3⟩ := hx2 h0
    exact ⟨b, o, h1, h2, fun i f hi => (h3 i f hi).below hW⟩
  obtain ⟨gl, hgl⟩ : ∃ gl, gl = p.globals := ⟨_, rfl⟩
  rw [← hgl] at HB0 ⊢
  have hc0 : ∀ j u, #[Value.int .i64 gl, .slice ao n2 cap][j]? = some u → ((w.alloc (.cells #[.int .i64 gl, .slice ao n2 cap] 30)).alloc (.cells #[.int .i64 gl, .slice ao2 n2 cap2] 30)).cell? ⟨w.heap.size, j, none⟩ = some u := fun j u hj => by
    have h1 := cell_of_row (w.alloc (.cells #[.int .i64 gl, .slice ao n2 cap] 30)) w.heap.size j _ _ _ (heap_alloc_new _ _)
    exact ((Keeps.refl (fun _ : Nat => False) _).alloc _).cell_of (h1.trans hj) id
  have hd0 : ∀ j u, #[Value.int .i64 gl, .slice ao2 n2 cap2][j]? = some u → ((w.alloc (.cells #[.int .i64 gl, .slice ao n2 cap] 30)).alloc (.cells #[.int .i64 gl, .slice ao2 n2 cap2] 30)).cell? ⟨w.heap.size + 1, j, none⟩ = some u := fun j u hj => by
    have h1 := cell_of_row ((w.alloc (.cells #[.int .i64 gl, .slice ao n2 cap] 30)).alloc (.cells #[.int .i64 gl, .slice ao2 n2 cap2] 30)) (w.alloc (.cells #[.int .i64 gl, .slice ao n2 cap] 30)).heap.size j _ _ _ (heap_alloc_new _ _)
    rw [show (w.alloc (.cells #[.int .i64 gl, .slice ao n2 cap] 30)).heap.size = w.heap.size + 1 by simp] at h1
    exact h1.trans hj
  have hsz1 : w.heap.size + 1 < ((w.alloc (.cells #[.int .i64 gl, .slice ao n2 cap] 30)).alloc (.cells #[.int .i64 gl, .slice ao2 n2 cap2] 30)).heap.size := by simp
  clear hb0 hx hx2 hn hn2 hgl
  go_enter Tryz.func21, Tryz.ntmps21
  go_upto_region 1 with fail
  generalize (w.alloc (.cells #[.int .i64 gl, .slice ao n2 cap] 30)).alloc (.cells #[.int .i64 gl, .slice ao2 n2 cap2] 30) = W1 at *
  have HC : Hid (∀ V, Below W1.heap.size W1 V → V.cell? ⟨w.heap.size, 0, none⟩ = some (.int .i64 gl) ∧ V.cell? ⟨w.heap.size, 1, none⟩ = some (.slice ao n2 cap) ∧ V.cell? ⟨w.heap.size + 1, 0, none⟩ = some (.int .i64 gl) ∧ V.cell? ⟨w.heap.size + 1, 1, none⟩ = some (.slice ao2 n2 cap2)) := Lib.hid fun V hV =>
    have hk := Keeps.of_new (S := fun _ => False) hV
    ⟨hk.cell_of (hc0 0 _ rfl) id, hk.cell_of (hc0 1 _ rfl) id, hk.cell_of (hd0 0 _ rfl) id, hk.cell_of (hd0 1 _ rfl) id⟩
  clear hc0 hd0
  obtain ⟨e0, e1, d0, d1⟩ := HC.out _ (Below.refl _ _)
  go_wp2_with fail
  go_loopw [5] (fun iv wr => ∃ k : Nat, k ≤ n2 ∧ iv = .int .i64 k ∧ Below W1.heap.size W1 wr) (fun iv _ => n2 - (intOf iv).toNat)
  case atStart => exact ⟨0, Nat.zero_le _, rfl, Below.refl _ _⟩
  case round =>
    obtain ⟨k, hk, rfl, hbel⟩ := hrel
    rename World => wr
    clear e0 e1 d0 d1
    have HB := Lib.hid hbel
    obtain ⟨e0, e1, d0, d1⟩ := HC.out _ hbel
    by_cases hkn : k < n2
    · obtain ⟨b, o, rfl, hbl, hfn⟩ := HX.out wr (HB0.out.trans (hbel.mono HB0.out.size)) (by omega)
      obtain ⟨b2, o2, rfl, hbl2, hfn2⟩ := HX2.out wr (HB0.out.trans (hbel.mono HB0.out.size)) (by omega)
      obtain ⟨f, hf⟩ : ∃ f, p.fns[k]? = some f := ⟨_, List.getElem?_eq_getElem (by rw [← HN.out]; exact hkn)⟩
      obtain ⟨x0, ⟨vl1, x1, hl1⟩, x2, vc1, x3, hv1⟩ := hfn k f hf
      obtain ⟨y0, ⟨vl2, y1, hl2⟩, y2, vc2, y3, hv2⟩ := hfn2 k f hf
      have HL1 := Lib.hid hl1
      have HL2 := Lib.hid hl2
      have HV1 := Lib.hid hv1
      have HV2 := Lib.hid hv2
      obtain ⟨a1, n1, c1, rfl, -⟩ := hl1
      obtain ⟨a3, n3, c3, rfl, -⟩ := hl2
      obtain ⟨a2, n9, c2, rfl, -⟩ := hv1
      obtain ⟨a4, n4, c4, rfl, -⟩ := hv2
      obtain ⟨pa, hpa⟩ : ∃ pa, pa = f.params := ⟨_, rfl⟩
      obtain ⟨ki, hki⟩ : ∃ ki, ki = f.kind := ⟨_, rfl⟩
      rw [← hpa] at x0 y0
      rw [← hki] at x2 y2
      have hi1 : (0 : Int) ≤ (k : Int) ∧ (k : Int) < (n2 : Int) := by omega
      have hi2 : (k : Int) < (n2 : Int) := by omega
      clear hfn hfn2 HX HX2 hpa hki
      go_upto_region 6 with fail
      go_cut [6, 7] from 29 to 38 (fun v6 v7 wx => TwoF wr wx v6 v7 (.int .i64 pa) (.slice a1 n1 c1) (.int .i64 ki) (.slice a2 n9 c2) (.slice a3 n3 c3) (.slice a4 n4 c4))
      case first =>
        have hb1r : b < wr.heap.size := Nat.lt_of_lt_of_le hbl (Nat.le_trans HB0.out.size HB.out.size)
        have hb2r : b2 < wr.heap.size := Nat.lt_of_lt_of_le hbl2 (Nat.le_trans HB0.out.size HB.out.size)
        have hws1 : w.heap.size + 1 < wr.heap.size := Nat.lt_of_lt_of_le hsz1 HB.out.size
        have hws0 : w.heap.size < wr.heap.size := by omega
        go_region
        all_goals go_wp2_with fail
        all_goals go_meet
        · obtain ⟨q1, q2, q3⟩ := two_cells wr #[.int .i64 pa, .slice a1 n1 c1, .int .i64 ki, .slice a2 n9 c2] #[.int .i64 pa, .slice a3 n3 c3, .int .i64 ki, .slice a4 n4 c4] 72
          exact ⟨_, _, rfl, rfl, q1 0 _ rfl, q1 1 _ rfl, q1 2 _ rfl, q1 3 _ rfl, q2 0 _ rfl, q2 1 _ rfl, q2 2 _ rfl, q2 3 _ rfl, q3⟩
        · obtain ⟨q1, q2, q3⟩ := two_cells wr #[.int .i64 pa, .slice a3 n3 c3, .int .i64 ki, .slice a4 n4 c4] #[.int .i64 pa, .slice a1 n1 c1, .int .i64 ki, .slice a2 n9 c2] 72
          exact ⟨_, _, rfl, rfl, q2 0 _ rfl, q2 1 _ rfl, q2 2 _ rfl, q2 3 _ rfl, q1 0 _ rfl, q1 1 _ rfl, q1 2 _ rfl, q1 3 _ rfl, q3⟩
      case rest =>
        rename World => wx
        obtain ⟨b7, b8, rfl, rfl, p0, p1, p2, p3, r0, r1, r2, r3, hbx⟩ := hcut
        have HBX := Lib.hid (HB.out.trans (hbx.mono HB.out.size))
        have HE1 := Lib.hid (equalI_any _ _ f.locals wx (HL1.out.below hbx) (HL2.out.below hbx))
        have HV1x := Lib.hid (HV1.out.below hbx)
        have HV2x := Lib.hid (HV2.out.below hbx)
        clear hbx e0 e1 d0 d1 x0 x1 x2 x3 y0 y1 y2 y3 hbel hf
        go_wp2_with fail
        refine HE1.out.mono ?_
        rintro e w5 ⟨rfl, m5, rfl⟩
        have HE2 := Lib.hid (equalN_any _ _ f.code (wx.drewN m5) (HV1x.out.below (below_drewK (Below.refl _ _) _)) (HV2x.out.below (below_drewK (Below.refl _ _) _)))
        go_wp2_with fail
        refine HE2.out.mono ?_
        rintro e w6 ⟨rfl, m6, rfl⟩
        go_wp2_with fail
        go_roundw
        case rel => exact ⟨k + 1, by omega, by go_num, below_drewK HBX.out _⟩
        case measure => simp [intOf]; omega
    · obtain rfl : k = n2 := by omega
      have hkk : ¬ (k : Int) < (k : Int) := by omega
      clear HX HX2
      go_wp2_with fail
      go_ret
      exact ⟨rfl, HB0.out.trans (HB.out.mono HB0.out.size)⟩
end Go.Proofs.YtkeglkneobngnaaGreatDoor

namespace Go.Proofs.YtkeglkneobngnaaGreatDoor
open Go.RowKit Cd

def tinyI : List In := [(1, -7), (5, 0), (4, 0), (21, 0), (14, 0)]
def tinyF : FnV := ⟨0, [1], 0, tinyI⟩
def tinyP : Pg := ⟨1, [tinyF]⟩
theorem tiny_right : progE tinyP = 0 := by decide
theorem tiny_short : ∀ f ∈ tinyP.fns, f.code.length ≤ 120 := by
  intro f hf
  obtain rfl : f = tinyF := by simpa [tinyP] using hf
  decide

theorem four_cells (w : World) (X0 X1 X2 X3 : Array Value) (t0 t1 t2 t3 : TypeId) :
    (∀ (j : Nat) u, X0[j]? = some u → ((((w.alloc (.cells X0 t0)).alloc (.cells X1 t1)).alloc (.cells X2 t2)).alloc (.cells X3 t3)).cell? ⟨w.heap.size, j, none⟩ = some u) ∧
    (∀ (j : Nat) u, X1[j]? = some u → ((((w.alloc (.cells X0 t0)).alloc (.cells X1 t1)).alloc (.cells X2 t2)).alloc (.cells X3 t3)).cell? ⟨w.heap.size + 1, j, none⟩ = some u) ∧
    (∀ (j : Nat) u, X2[j]? = some u → ((((w.alloc (.cells X0 t0)).alloc (.cells X1 t1)).alloc (.cells X2 t2)).alloc (.cells X3 t3)).cell? ⟨w.heap.size + 1 + 1, j, none⟩ = some u) ∧
    (∀ (j : Nat) u, X3[j]? = some u → ((((w.alloc (.cells X0 t0)).alloc (.cells X1 t1)).alloc (.cells X2 t2)).alloc (.cells X3 t3)).cell? ⟨w.heap.size + 1 + 1 + 1, j, none⟩ = some u) := by
  refine ⟨fun j u hj => ?_, fun j u hj => ?_, fun j u hj => ?_, fun j u hj => ?_⟩
  · have h1 := cell_of_row (w.alloc (.cells X0 t0)) w.heap.size j _ _ _ (heap_alloc_new _ _)
    exact ((((Keeps.refl (fun _ : Nat => False) _).alloc _).alloc _).alloc _).cell_of (h1.trans hj) id
  · have h1 := cell_of_row ((w.alloc (.cells X0 t0)).alloc (.cells X1 t1)) (w.alloc (.cells X0 t0)).heap.size j _ _ _ (heap_alloc_new _ _)
    rw [show (w.alloc (.cells X0 t0)).heap.size = w.heap.size + 1 by simp] at h1
    exact (((Keeps.refl (fun _ : Nat => False) _).alloc _).alloc _).cell_of (h1.trans hj) id
  · have h1 := cell_of_row (((w.alloc (.cells X0 t0)).alloc (.cells X1 t1)).alloc (.cells X2 t2)) ((w.alloc (.cells X0 t0)).alloc (.cells X1 t1)).heap.size j _ _ _ (heap_alloc_new _ _)
    rw [show ((w.alloc (.cells X0 t0)).alloc (.cells X1 t1)).heap.size = w.heap.size + 1 + 1 by simp] at h1
    exact ((Keeps.refl (fun _ : Nat => False) _).alloc _).cell_of (h1.trans hj) id
  · have h1 := cell_of_row ((((w.alloc (.cells X0 t0)).alloc (.cells X1 t1)).alloc (.cells X2 t2)).alloc (.cells X3 t3)) (((w.alloc (.cells X0 t0)).alloc (.cells X1 t1)).alloc (.cells X2 t2)).heap.size j _ _ _ (heap_alloc_new _ _)
    rw [show (((w.alloc (.cells X0 t0)).alloc (.cells X1 t1)).alloc (.cells X2 t2)).heap.size = w.heap.size + 1 + 1 + 1 by simp] at h1
    exact h1.trans hj
theorem tiny_at {W : World} {s : Nat} (hs : s + 1 + 1 + 1 < W.heap.size)
    (h1 : ∀ (j : Nat) u, #[Value.int .i64 1][j]? = some u → W.cell? ⟨s + 1, j, none⟩ = some u)
    (h2 : ∀ (j : Nat) u, #[Value.int .i64 1, .int .i64 (-7), .int .i64 5, .int .i64 0, .int .i64 4, .int .i64 0, .int .i64 21, .int .i64 0, .int .i64 14, .int .i64 0][j]? = some u → W.cell? ⟨s + 1 + 1, j, none⟩ = some u)
    (h3 : ∀ (j : Nat) u, #[Value.int .i64 0, .slice (some ⟨s + 1, 0, none⟩) 1 1, .int .i64 0, .slice (some ⟨s + 1 + 1, 0, none⟩) 5 5][j]? = some u → W.cell? ⟨s + 1 + 1 + 1, j, none⟩ = some u) :
    ProgAt W (.agg #[.int .i64 1, .slice (some ⟨s + 1 + 1 + 1, 0, none⟩) 1 1]) tinyP := by
  refine ⟨_, rfl, _, 1, 1, rfl, rfl, Nat.le_refl _, by decide, fun _ => ⟨s + 1 + 1 + 1, 0, rfl, hs, fun i f hi => ?_⟩⟩
  match i, hi with
  | 0, hi =>
    cases hi
    refine ⟨h3 0 _ rfl, ⟨_, h3 1 _ rfl, _, 1, 1, rfl, rfl, Nat.le_refl _, by decide, fun _ => ⟨s + 1, 0, rfl, by omega, fun i hi => ?_⟩⟩, h3 2 _ rfl, _, h3 3 _ rfl, _, 5, 5, rfl, rfl, Nat.le_refl _, by decide, fun _ => ⟨s + 1 + 1, 0, rfl, by omega, fun i x hi => ?_⟩⟩
    · match i, hi with
      | 0, _ => exact h1 0 _ rfl
    · match i, hi with
      | 0, hi => cases hi; exact ⟨h2 0 _ rfl, h2 1 _ rfl⟩
      | 1, hi => cases hi; exact ⟨h2 2 _ rfl, h2 3 _ rfl⟩
      | 2, hi => cases hi; exact ⟨h2 4 _ rfl, h2 5 _ rfl⟩
      | 3, hi => cases hi; exact ⟨h2 6 _ rfl, h2 7 _ rfl⟩
      | 4, hi => cases hi; exact ⟨h2 8 _ rfl, h2 9 _ rfl⟩

set_option maxRecDepth 100000 in
set_option maxHeartbeats 1600000 in
theorem tiny_any (w : World) : Calls Tryz.prog 51 #[] w fun e w' => ∃ v, e = .returned (.agg #[.int .i64 1, v]) ∧ ProgAt w' (.agg #[.int .i64 1, v]) tinyP ∧ Below w.heap.size w w' := by
  obtain ⟨c0, c1, c2, c3⟩ := four_cells w #[.int .i64 1, .slice (some ⟨w.heap.size + 1 + 1 + 1, 0, none⟩) 1 1] #[.int .i64 1] #[.int .i64 1, .int .i64 (-7), .int .i64 5, .int .i64 0, .int .i64 4, .int .i64 0, .int .i64 21, .int .i64 0, .int .i64 14, .int .i64 0]
    #[.int .i64 0, .slice (some ⟨w.heap.size + 1, 0, none⟩) 1 1, .int .i64 0, .slice (some ⟨w.heap.size + 1 + 1, 0, none⟩) 5 5] 30 3 75 72
  have q0 := c0 0 _ rfl
  have q1 := c0 1 _ rfl
  have HP := Lib.hid (tiny_at (by simp) c1 c2 c3)
  have hb := ((((Below.refl w.heap.size w).alloc (Nat.le_refl _) (.cells #[.int .i64 1, .slice (some ⟨w.heap.size + 1 + 1 + 1, 0, none⟩) 1 1] 30)).alloc (by simp) (.cells #[.int .i64 1] 3)).alloc (by simp; omega) (.cells #[.int .i64 1, .int .i64 (-7), .int .i64 5, .int .i64 0, .int .i64 4, .int .i64 0, .int .i64 21, .int .i64 0, .int .i64 14, .int .i64 0] 75)).alloc (by simp; omega) (.cells #[.int .i64 0, .slice (some ⟨w.heap.size + 1, 0, none⟩) 1 1, .int .i64 0, .slice (some ⟨w.heap.size + 1 + 1, 0, none⟩) 5 5] 72)
  have HB := Lib.hid hb
  clear c0 c1 c2 c3 hb
  go_enter Tryz.func51, Tryz.ntmps51
  go_wp2_with fail
  refine bodyPost_ret (v := .agg #[.int .i64 1, .slice (some ⟨w.heap.size + 1 + 1 + 1, 0, none⟩) 1 1]) (by simp [results, Tryz.results51, go_sem] <;> rfl) rfl ?_
  exact ⟨_, rfl, HP.out, HB.out⟩
end Go.Proofs.YtkeglkneobngnaaGreatDoor

namespace Go.Proofs.YtkeglkneobngnaaGreatDoor
open Go.RowKit Cd As

/-- Read, at whatever text. -/
theorem asmRead_any (s : ByteArray) (w : World) (hE : RdEnv w) :
    Calls Tryz.prog 13 #[.string s] w fun e w' => AnsAt w' e (readA s.data.toList) ∧ Below w.heap.size w w' := by
  by_cases h : s.size ≤ 60000
  · exact read_short s w h hE
  · exact read_long s w (by omega)
theorem bel_nxt {w a b : World} (h : Below w.heap.size w a) (k : Below a.heap.size a b) : Below w.heap.size w b := h.trans (k.mono h.size)
theorem agg2_snd' {a b c d : Value} (h : Value.agg #[a, b] = .agg #[c, d]) : b = d := by
  injection h with h
  injection h with h
  injection h with _ h
  injection h
theorem tiny_text : asmT tinyP = [103, 108, 111, 98, 97, 108, 115, 32, 49, 10, 102, 110, 32, 110, 111, 110, 101, 32, 48, 32, 105, 110, 116, 10, 32, 32, 112, 117, 115, 104, 32, 45, 55, 10, 32, 32, 115, 101, 116, 32, 48, 10, 32, 32, 103, 101, 116, 32, 48, 10, 32, 32, 112, 114, 105, 110, 116, 10, 32, 32, 114, 101, 116, 10] := by
  have d1 : ∀ k : Nat, k < 10 → Lib.decDigits k = [UInt8.ofNat (48 + k)] := fun k hk => by rw [Lib.decDigits, dif_pos hk]
  have i1 : Lib.itoa 1 = [49] := by show (if _ then _ else _) = _; rw [if_neg (by decide)]; exact d1 1 (by decide)
  have i0 : Lib.itoa 0 = [48] := by show (if _ then _ else _) = _; rw [if_neg (by decide)]; exact d1 0 (by decide)
  have i7 : Lib.itoa (-7) = [45, 55] := by show (if _ then _ else _) = _; rw [if_pos (by decide)]; show 45 :: Lib.decDigits 7 = _; rw [d1 7 (by decide)]; rfl
  simp [asmT, globL, fnT, As.headL, insT, As.insL, argB, tinyP, tinyF, tinyI, spaced, i0, i1, i7, nameB, kindW, namesB, kindsB, globB, fnB, hasN, leastI, mostI, manyB]
theorem tiny_read : readA (asmT tinyP) = .ok tinyP := read_back ((progE_iff _).1 tiny_right) (small_len ((progE_iff _).1 tiny_right) tiny_short)

set_option maxRecDepth 100000 in
set_option maxHeartbeats 6400000 in
theorem spelt_any (w : World) (hE : RdEnv w) : Calls Tryz.prog 15 #[] w fun e w' => e = .returned (.bool true) ∧ Below w.heap.size w w' := by
  have HE := Lib.hid hE
  have HET : Hid (errV (progE tinyP) = .nilIface) := Lib.hid (by rw [tiny_right]; rfl)
  have HW : Hid (wrT tinyP = ⟨#[103, 108, 111, 98, 97, 108, 115, 32, 49, 10, 102, 110, 32, 110, 111, 110, 101, 32, 48, 32, 105, 110, 116, 10, 32, 32, 112, 117, 115, 104, 32, 45, 55, 10, 32, 32, 115, 101, 116, 32, 48, 10, 32, 32, 103, 101, 116, 32, 48, 10, 32, 32, 112, 114, 105, 110, 116, 10, 32, 32, 114, 101, 116, 10]⟩) := Lib.hid (by
    rw [wrT_ok tiny_right, tiny_text]
    rfl)
  clear hE
  go_enter Tryz.func15, Tryz.ntmps15
  go_wp2_with fail
  refine (tiny_any w).mono ?_
  rintro e w1 ⟨v1, rfl, hp1, hb1⟩
  have HB1 := Lib.hid hb1
  have HEN := Lib.hid (write_any tinyP _ w1 hp1 (fun h => Nat.le_trans (small_len ((progE_iff _).1 h) tiny_short) (by decide)) (HE.out.below hb1).tabs (HE.out.below hb1).pow)
  rw [HET.out, HW.out] at HEN
  clear hp1 hb1
  go_wp2_with fail
  refine HEN.out.mono ?_
  rintro e w2 ⟨rfl, hb2⟩
  have HB2 := Lib.hid (HB1.out.trans (hb2.mono HB1.out.size))
  have HD := Lib.hid (asmRead_any ⟨#[103, 108, 111, 98, 97, 108, 115, 32, 49, 10, 102, 110, 32, 110, 111, 110, 101, 32, 48, 32, 105, 110, 116, 10, 32, 32, 112, 117, 115, 104, 32, 45, 55, 10, 32, 32, 115, 101, 116, 32, 48, 10, 32, 32, 103, 101, 116, 32, 48, 10, 32, 32, 112, 114, 105, 110, 116, 10, 32, 32, 114, 101, 116, 10]⟩ w2 (HE.out.below HB2.out))
  have HRB : Hid (readA (⟨#[103, 108, 111, 98, 97, 108, 115, 32, 49, 10, 102, 110, 32, 110, 111, 110, 101, 32, 48, 32, 105, 110, 116, 10, 32, 32, 112, 117, 115, 104, 32, 45, 55, 10, 32, 32, 115, 101, 116, 32, 48, 10, 32, 32, 103, 101, 116, 32, 48, 10, 32, 32, 112, 114, 105, 110, 116, 10, 32, 32, 114, 101, 116, 10]⟩ : ByteArray).data.toList = .ok tinyP) := Lib.hid (by rw [← tiny_read, tiny_text])
  rw [HRB.out] at HD
  clear hb2 HEN
  go_wp2_with fail
  refine HD.out.mono ?_
  rintro e w3 ⟨⟨v3, rfl, hp3⟩, hb3⟩
  have HB3 := Lib.hid (HB2.out.trans (hb3.mono HB2.out.size))
  have HP3 := Lib.hid hp3
  obtain ⟨vf, rfl, a9, n9, c9, rfl, -⟩ := hp3
  obtain ⟨g, hg⟩ : ∃ g, g = tinyP.globals := ⟨_, rfl⟩
  rw [← hg] at HP3 ⊢
  clear hg
  go_upto_region 3 with fail
  have hal := (Below.refl w3.heap.size w3).alloc (Nat.le_refl _) (.cells #[.int .i64 g, .slice a9 n9 c9] 30)
  have HAL := Lib.hid hal
  have hz0 := cell_of_row (w3.alloc (.cells #[.int .i64 g, .slice a9 n9 c9] 30)) w3.heap.size 0 _ _ _ (heap_alloc_new _ _)
  have hz1 := cell_of_row (w3.alloc (.cells #[.int .i64 g, .slice a9 n9 c9] 30)) w3.heap.size 1 _ _ _ (heap_alloc_new _ _)
  have hszz : w3.heap.size < (w3.alloc (.cells #[.int .i64 g, .slice a9 n9 c9] 30)).heap.size := by simp
  generalize w3.alloc (.cells #[.int .i64 g, .slice a9 n9 c9] 30) = w4 at *
  have HC : Hid (∀ V, Below w4.heap.size w4 V → V.cell? ⟨w3.heap.size, 0, none⟩ = some (.int .i64 g) ∧ V.cell? ⟨w3.heap.size, 1, none⟩ = some (.slice a9 n9 c9)) := Lib.hid fun V hV =>
    ⟨(Keeps.of_new (S := fun _ => False) hV).cell_of hz0 id, (Keeps.of_new (S := fun _ => False) hV).cell_of hz1 id⟩
  have HTY : Hid (∀ V, Below w4.heap.size w4 V → Calls Tryz.prog 51 #[] V fun e w' => ∃ v, e = .returned (.agg #[.int .i64 1, v]) ∧ ProgAt w' (.agg #[.int .i64 1, v]) tinyP ∧ Below w4.heap.size w4 w') := Lib.hid fun V hV => (tiny_any V).mono fun _ _ ⟨v, h1, h2, h3⟩ => ⟨v, h1, h2, bel_nxt hV h3⟩
  have HSP : Hid (∀ V v, Below w4.heap.size w4 V → ProgAt V (.agg #[.int .i64 1, v]) tinyP → Calls Tryz.prog 21 #[.agg #[.int .i64 g, .slice a9 n9 c9], .agg #[.int .i64 1, v]] V fun e w' => e = .returned (.bool true) ∧ Below w4.heap.size w4 w') := Lib.hid fun V v hV hv =>
    (sameP_any tinyP _ _ V (HP3.out.below (hal.trans (hV.mono hal.size))) hv).mono fun _ _ ⟨h1, h2⟩ => ⟨h1, bel_nxt hV h2⟩
  have hbb : Below w4.heap.size w4 w4 := Below.refl _ _
  clear hz0 hz1 hal hszz HD
  go_region_held3 (fun V : World => V.cell? ⟨w3.heap.size, 0, none⟩ = some (.int .i64 g) ∧ V.cell? ⟨w3.heap.size, 1, none⟩ = some (.slice a9 n9 c9)) (first | exact HC.out _ (by assumption) | exact HC.out _ (Below.drew (by assumption)))
    ((first
      | (go_at_call 21; refine (HSP.out _ _ (by assumption) (by assumption)).mono ?_; rintro e V2 ⟨rfl, hv2⟩)
      | (go_at_call 51; refine (HTY.out _ ?_).mono ?_; (first | assumption | exact Below.drew (by assumption)); rintro e V1 ⟨v9, rfl, hp9, hv1⟩)))
  have HV2 := Lib.hid hv2
  clear hv2
  go_wp2_with fail
  go_ret
  exact ⟨rfl, HB3.out.trans ((HAL.out.trans (HV2.out.mono HAL.out.size)).mono HB3.out.size)⟩
end Go.Proofs.YtkeglkneobngnaaGreatDoor

namespace Go.Proofs.YtkeglkneobngnaaGreatDoor
namespace As
open Cd

/-- For each byte s these bytes. -/
def putAt (s : UInt8) (by_ : B) (l : B) : B := l.flatMap fun c => if c = s then by_ else [c]
theorem putAt_append (s : UInt8) (x a b : B) : putAt s x (a ++ b) = putAt s x a ++ putAt s x b := List.flatMap_append
theorem putAt_none {s : UInt8} {x : B} : ∀ {l : B}, (∀ c ∈ l, c ≠ s) → putAt s x l = l
  | [], _ => rfl
  | c :: r, h => by
    have ih := putAt_none (x := x) fun y hy => h y (List.mem_cons_of_mem (a := y) c hy)
    show (if c = s then x else [c]) ++ putAt s x r = _
    rw [if_neg (h c List.mem_cons_self), ih]
    rfl
theorem putAt_one (s : UInt8) (x r : B) : putAt s x (s :: r) = x ++ putAt s x r := by
  show (if s = s then x else [s]) ++ putAt s x r = _
  rw [if_pos rfl]
theorem split_first (s : UInt8) : ∀ l : B, (∀ c ∈ l, c ≠ s) ∨ ∃ a r, l = a ++ s :: r ∧ (∀ c ∈ a, c ≠ s) ∧ r.length < l.length
  | [] => Or.inl fun c hc => (by cases hc)
  | c :: r => by
    by_cases hc : c = s
    · exact Or.inr ⟨[], r, by rw [hc]; rfl, fun x hx => (by cases hx), by simp⟩
    · rcases split_first s r with h | ⟨a, q, rfl, h, hl⟩
      · exact Or.inl fun x hx => by rcases List.mem_cons.1 hx with rfl | hx; exact hc; exact h x hx
      · exact Or.inr ⟨c :: a, q, rfl, fun x hx => by rcases List.mem_cons.1 hx with rfl | hx; exact hc; exact h x hx, by simp at hl ⊢; omega⟩
theorem words_many : ∀ (n : Nat) (l : B), words (List.replicate n 32 ++ l) = words l
  | 0, l => rfl
  | n + 1, l => by
    rw [List.replicate_succ, List.cons_append, words_blank, words_many n l]
theorem words_tail : ∀ (k : Nat) (l : B), l.length ≤ k → words (l ++ [32]) = words l
  | 0, l, h => by
    obtain rfl : l = [] := List.length_eq_zero_iff.1 (by omega)
    rfl
  | k + 1, l, h => by
    rcases split_first 32 l with hn | ⟨a, r, rfl, ha, hl⟩
    · cases l with
      | nil => rfl
      | cons c l =>
        show words ((c :: l) ++ 32 :: []) = _
        unfold words
        rw [cutAt_append [] hn, cutAt_none hn]
        rfl
    · have ih := words_tail k r (by omega)
      rw [List.append_assoc, List.cons_append]
      unfold words at ih ⊢
      rw [cutAt_append _ ha, cutAt_append _ ha, List.filter_cons, List.filter_cons, ih]
/-- Blanks, each n times. -/
theorem words_put (n : Nat) (hn : 1 ≤ n) : ∀ (k : Nat) (l : B), l.length ≤ k → words (putAt 32 (List.replicate n 32) l) = words l
  | 0, l, h => by
    obtain rfl : l = [] := List.length_eq_zero_iff.1 (by omega)
    rfl
  | k + 1, l, h => by
    rcases split_first 32 l with hf | ⟨a, r, rfl, ha, hl⟩
    · rw [putAt_none hf]
    · have ih := words_put n hn k r (by omega)
      obtain ⟨m, rfl⟩ : ∃ m, n = m + 1 := ⟨n - 1, by omega⟩
      rw [putAt_append, putAt_none ha, putAt_one]
      generalize putAt 32 (List.replicate (m + 1) 32) r = X at *
      rw [List.replicate_succ, List.cons_append]
      have e : words (List.replicate m 32 ++ X) = words r := by rw [words_many, ih]
      unfold words at e ⊢
      rw [cutAt_append _ ha, cutAt_append _ ha, List.filter_cons, List.filter_cons, e]
/-- What is read does not hang on the lines' numbers. -/
theorem lnsR_any : ∀ {ls : List B} {k k' : Nat} {s r : St}, lnsR ls k s = .ok r → lnsR ls k' s = .ok r
  | [], k, k', s, r, h => h
  | l :: ls, k, k', s, r, h => by
    unfold lnsR at h ⊢
    split at h
    · rename_i hw
      rw [if_pos hw]
      exact lnsR_any h
    · rename_i hw
      rw [if_neg hw]
      split at h
      · cases h
      · exact lnsR_any h
/-- A text with more blanks and empty lines. -/
def blindB (b l : Nat) (s : B) : B := putAt 10 (List.replicate l [32, 10]).flatten (putAt 32 (List.replicate b 32) s)
theorem put_flat (b : Nat) {l : B} (h : ∀ c ∈ l, c ≠ 10) : ∀ c ∈ putAt 32 (List.replicate b 32) l, c ≠ 10 := fun c hc => by
  obtain ⟨x, hx, hc⟩ := List.mem_flatMap.1 hc
  split at hc
  · rw [(List.mem_replicate.1 hc).2]; decide
  · rw [List.mem_singleton.1 hc]; exact h x hx
/-- Empty lines change nothing. -/
theorem lnsR_empty : ∀ (n : Nat) (rest : B) (k : Nat) (s : St), ∃ k', lnsR (cutAt 10 ((List.replicate n [32, 10]).flatten ++ rest)) k s = lnsR (cutAt 10 rest) k' s
  | 0, rest, k, s => ⟨k, rfl⟩
  | n + 1, rest, k, s => by
    obtain ⟨k', hk⟩ := lnsR_empty n rest (k + 1) s
    refine ⟨k', ?_⟩
    rw [← hk]
    have e : (List.replicate (n + 1) [32, 10]).flatten ++ rest = [32] ++ 10 :: ((List.replicate n [32, 10]).flatten ++ rest) := by
      rw [List.replicate_succ, List.flatten_cons, List.append_assoc]
      rfl
    rw [e, cutAt_append _ (fun c hc => by rw [List.mem_singleton.1 hc]; decide)]
    conv => lhs; unfold lnsR
    rw [if_pos (show words [32] = [] from rfl)]
/-- HOWEVER MANY BLANKS, AND EMPTY LINES. -/
theorem blind_read (b l : Nat) (hb : 1 ≤ b) (hl : 1 ≤ l) : ∀ (m : Nat) (t : B) (k k' : Nat) (s r : St), t.length ≤ m → lnsR (cutAt 10 t) k s = .ok r → lnsR (cutAt 10 (blindB b l t)) k' s = .ok r
  | m, t, k, k', s, r, hm, h => by
    rcases split_first 10 t with hn | ⟨a, q, rfl, ha, hlt⟩
    · have hf := put_flat b hn
      unfold blindB
      rw [putAt_none hf, cutAt_none hf]
      rw [cutAt_none hn] at h
      unfold lnsR at h ⊢
      rw [words_put b hb _ t (Nat.le_refl _)]
      split at h
      · rename_i hw; rw [if_pos hw]; exact lnsR_any h
      · rename_i hw
        rw [if_neg hw]
        split at h
        · cases h
        · exact lnsR_any h
    · obtain ⟨m, rfl⟩ : ∃ m', m = m' + 1 := ⟨m - 1, by omega⟩
      obtain ⟨l, rfl⟩ : ∃ l', l = l' + 1 := ⟨l - 1, by omega⟩
      have hf := put_flat b ha
      have e : blindB b (l + 1) (a ++ 10 :: q) = (putAt 32 (List.replicate b 32) a ++ [32]) ++ 10 :: ((List.replicate l [32, 10]).flatten ++ blindB b (l + 1) q) := by
        unfold blindB
        have e1 : putAt 32 (List.replicate b 32) (a ++ 10 :: q) = putAt 32 (List.replicate b 32) a ++ 10 :: putAt 32 (List.replicate b 32) q := by
          rw [putAt_append]
          rfl
        rw [e1, putAt_append, putAt_none hf, putAt_one]
        generalize putAt 10 (List.replicate (l + 1) [32, 10]).flatten (putAt 32 (List.replicate b 32) q) = X
        rw [List.replicate_succ, List.flatten_cons]
        simp
      have hf2 : ∀ c ∈ putAt 32 (List.replicate b 32) a ++ [32], c ≠ 10 := fun c hc => by
        rcases List.mem_append.1 hc with hc | hc
        · exact hf c hc
        · rw [List.mem_singleton.1 hc]; decide
      rw [e, cutAt_append _ hf2]
      rw [cutAt_append _ ha] at h
      have hw2 : words (putAt 32 (List.replicate b 32) a ++ [32]) = words a := by
        rw [words_tail _ _ (Nat.le_refl _), words_put b hb _ a (Nat.le_refl _)]
      unfold lnsR at h ⊢
      rw [hw2]
      have ih := fun k s hh => blind_read b (l + 1) hb hl m q k 0 s r (by omega) hh
      split at h
      · rename_i hw
        rw [if_pos hw]
        obtain ⟨k2, hk2⟩ := lnsR_empty l (blindB b (l + 1) q) (k' + 1) s
        rw [hk2]
        exact lnsR_any (ih _ _ h)
      · rename_i hw
        rw [if_neg hw]
        split at h
        · cases h
        · rename_i s2 _
          obtain ⟨k2, hk2⟩ := lnsR_empty l (blindB b (l + 1) q) (k' + 1) s2
          rw [hk2]
          exact lnsR_any (ih _ _ h)
  termination_by m => m
theorem read_blind {p : Pg} (h : PgR p) (b l : Nat) (hb : 1 ≤ b) (hl : 1 ≤ l) (hs : (blindB b l (asmT p)).length ≤ 60000) : readA (blindB b l (asmT p)) = .ok p := by
  unfold readA
  rw [if_neg (by omega), blind_read b l hb hl _ (asmT p) 0 0 St0 ⟨true, p⟩ (Nat.le_refl _) (back h)]
  dsimp only
  rw [if_pos rfl, if_pos ((progE_iff p).2 h)]
end As
end Go.Proofs.YtkeglkneobngnaaGreatDoor

namespace Go.Proofs.YtkeglkneobngnaaGreatDoor
open Go.RowKit

theorem pick_val (a : Int) (n : Nat) (h0 : 0 < n) (hn : n ≤ 9223372036854775807) : wrap64 ((IntKind.u64.wrap a).tmod n) = ((IntKind.u64.wrap a % (n : Int)).toNat : Int) ∧ (IntKind.u64.wrap a % (n : Int)).toNat < n := by
  have hu : 0 ≤ IntKind.u64.wrap a := by rw [IntKind.wrap_u64]; omega
  have e1 : (IntKind.u64.wrap a).tmod n = IntKind.u64.wrap a % n := Int.tmod_eq_emod_of_nonneg hu
  have l0 : 0 ≤ IntKind.u64.wrap a % (n : Int) := Int.emod_nonneg _ (by omega)
  have l1 : IntKind.u64.wrap a % (n : Int) < n := Int.emod_lt_of_pos _ (by omega)
  rw [e1]
  refine ⟨?_, by omega⟩
  rw [IntWalk.wrap64_in _ ⟨by omega, by omega⟩]; omega

set_option maxHeartbeats 400000 in
theorem pick_any (a : Int) (n : Nat) (w : World) (h0 : 0 < n) (hn : n ≤ 9223372036854775807) :
    Calls Tryz.prog 20 #[.int .i64 a, .int .i64 n] w fun e w' => ∃ r : Nat, r < n ∧ e = .returned (.int .i64 r) ∧ w = w' := by
  go_enter Tryz.func20, Tryz.ntmps20
  go_wp2_with fail
  go_ret
  obtain ⟨e, hl⟩ := pick_val a n h0 hn
  exact ⟨_, hl, by rw [← e]; rfl, rfl⟩
end Go.Proofs.YtkeglkneobngnaaGreatDoor

namespace Go.Proofs.YtkeglkneobngnaaGreatDoor
open Go.RowKit Cd As

/-- All replaced, one separator byte. -/
theorem replace_put (s : UInt8) (y : B) : ∀ (l : B) (k : Nat), k = l.count s → Go.Lib.replaceK [s] y k l = putAt s y l := by
  intro l
  induction l with
  | nil => intro k hk; subst hk; rfl
  | cons b r ih =>
    intro k hk
    by_cases hb : b = s
    · subst hb
      rw [List.count_cons_self] at hk
      subst hk
      have hi : Go.Lib.index (b :: r) [b] = ((0 : Nat) : Int) := by
        rw [Go.Lib.index_one]
        unfold Go.Lib.indexByte
        rw [beq_self_eq_true]
        rfl
      rw [Go.Lib.replaceK_hit [b] y _ _ 0 hi, putAt_one]
      simp only [List.take_zero, List.nil_append, List.length_singleton, Nat.zero_add, List.drop_succ_cons, List.drop_zero]
      rw [ih _ rfl]
    · rw [List.count_cons_of_ne hb] at hk
      have hp : putAt s y (b :: r) = b :: putAt s y r := by
        show (if b = s then y else [b]) ++ putAt s y r = _
        rw [if_neg hb]
        rfl
      rw [hp]
      cases k with
      | zero =>
        have hn : s ∉ r := List.count_eq_zero.1 hk.symm
        rw [putAt_none (fun c hc e => hn (by rw [← e]; exact hc))]; rfl
      | succ k =>
        have h1 := ih (k + 1) hk
        have hc : 0 < Go.Lib.count r [s] := by rw [Go.Lib.count_one]; omega
        obtain ⟨i, hi⟩ := Go.Lib.index_of_count hc
        have hi2 : Go.Lib.index (b :: r) [s] = ((i + 1 : Nat) : Int) := by
          rw [Go.Lib.index_one] at hi ⊢
          have hbe : (b == s) = false := by simpa using hb
          have hne : (Go.Lib.indexByte r s == -1) = false := by rw [beq_eq_false_iff_ne]; omega
          unfold Go.Lib.indexByte
          rw [hbe, hne, hi]
          rfl
        rw [Go.Lib.replaceK_hit [s] y _ _ i hi] at h1
        rw [Go.Lib.replaceK_hit [s] y _ _ (i + 1) hi2, ← h1]
        simp
theorem putAt_same (s : UInt8) : ∀ l : B, putAt s [s] l = l
  | [] => rfl
  | c :: r => by
    show (if c = s then [s] else [c]) ++ putAt s [s] r = _
    rw [putAt_same s r]
    split
    · rename_i h; rw [h]; rfl
    · rfl
theorem replaceAll_put (s : UInt8) (l y : B) : Go.Lib.replaceAll l [s] y = putAt s y l := by
  unfold Go.Lib.replaceAll Go.Lib.replace Go.Lib.replaceNum
  by_cases hy : [s] = y
  · rw [if_pos (by rw [hy]; exact beq_self_eq_true _), ← hy, putAt_same]
  · rw [if_neg (by simpa using hy), if_pos (Or.inl (by decide)), Go.Lib.count_one]
    exact replace_put s y l _ rfl
theorem put_len (s : UInt8) (y : B) (m : Nat) (hy : y.length ≤ m) (h1 : 1 ≤ m) : ∀ l : B, (putAt s y l).length ≤ m * l.length
  | [] => by simp [putAt]
  | c :: r => by
    have ih := put_len s y m hy h1 r
    show ((if c = s then y else [c]) ++ putAt s y r).length ≤ _
    rw [List.length_append, List.length_cons, Nat.mul_succ]
    have : (if c = s then y else [c]).length ≤ m := by split; exact hy; exact h1
    omega
theorem rep_one (n : Nat) : Go.Lib.repeatL [32] n = List.replicate n 32 := by
  induction n with
  | zero => rfl
  | succ n ih => rw [Go.Lib.repeatL, ih]; rfl
theorem rep_two (n : Nat) : Go.Lib.repeatL [32, 10] n = (List.replicate n [32, 10]).flatten := by
  induction n with
  | zero => rfl
  | succ n ih => rw [Go.Lib.repeatL, ih]; rfl
/-- What internal/bytealg.MaxLen holds: some int. -/
def MaxLB (w : World) : Prop := ∃ m, w.cell? ⟨2, 0, none⟩ = some (.int .i64 m)
theorem MaxLB.below {w w' : World} (h : MaxLB w) (hb : Below w.heap.size w w') : MaxLB w' := by
  obtain ⟨m, hm⟩ := h
  exact ⟨m, by rw [hb.cell (p := ⟨2, 0, none⟩) (block_lt_of_cell hm)]; exact hm⟩
theorem put_any (s : ByteArray) (o : ByteArray) (c : UInt8) (ho : o.data.toList = [c]) (Y : ByteArray) (W : World) (hs : s.size ≤ 1000000) (hY : Y.size ≤ 100) (hM : MaxLB W) :
    Calls Tryz.prog 18 #[.string s, .string o, .string Y] W fun e w' => e = .returned (.string (stB (putAt c Y.data.toList s.data.toList))) ∧ Below W.heap.size W w' := by
  obtain ⟨m, hm⟩ := hM
  have hoz : o.size = 1 := by
    have : o.data.toList.length = o.size := by simp
    rw [ho] at this; exact this.symm
  have hc : Go.Lib.countB s o ≤ s.size := Go.Lib.countB_le o (by omega) s.size s (Nat.le_refl _)
  have hmul : Go.Lib.countB s o * Y.size ≤ 1000000 * 100 := Nat.mul_le_mul (by omega) hY
  refine (Tryz.strings_ReplaceAll s o Y m W (by omega) hm (by omega) (by omega)).mono ?_
  rintro e w' ⟨rfl, hb⟩
  refine ⟨?_, hb⟩
  rw [ho, replaceAll_put]
  rfl
theorem rep_any (s : ByteArray) (n : Nat) (W : World) (hs : s.size ≤ 2) (hn : n ≤ 10) :
    Calls Tryz.prog 19 #[.string s, .int .i64 n] W fun e w' => e = .returned (.string (stB (Go.Lib.repeatL s.data.toList n))) ∧ Below W.heap.size W w' := by
  have hmul : s.size * n ≤ 2 * 10 := Nat.mul_le_mul hs hn
  exact (Tryz.strings_Repeat s n W (by omega) (by omega)).mono fun e w' ⟨he, hb⟩ => ⟨by rw [he]; rfl, hb⟩
theorem stB_list (l : B) : (stB l).data.toList = l := rfl
theorem rep_bytes (l : B) (n : Nat) : (stB (Go.Lib.repeatL l n)).size = n * l.length := by rw [stB_size, Go.Lib.repeatL_length]

set_option maxRecDepth 100000 in
set_option maxHeartbeats 6400000 in
theorem asmBlind_any (p : Pg) (g : Int) (vf : Value) (bl li : Int) (w : World) (hp : ProgAt w (.agg #[.int .i64 g, vf]) p) (_b0 : -9223372036854775808 ≤ bl) (_b1 : bl ≤ 9223372036854775807) (_c0 : -9223372036854775808 ≤ li) (_c1 : li ≤ 9223372036854775807) (hL : RdEnv w) (_hX : True) (hM : MaxLB w) :
    Calls Tryz.prog 5 #[.agg #[.int .i64 g, vf], .int .i64 bl, .int .i64 li] w fun e w' => e = .returned (.bool true) ∧ Below w.heap.size w w' := by
  obtain ⟨ao, n, cap, hvf⟩ : ∃ ao n cap, vf = .slice ao n cap := by
    obtain ⟨_, e, ao, n, cap, h, -⟩ := hp
    exact ⟨ao, n, cap, by rw [agg2_snd' e]; exact h⟩
  subst hvf
  have HP := Lib.hid hp
  have HL := Lib.hid hL
  have HM := Lib.hid hM
  have hal := (Below.refl w.heap.size w).alloc (Nat.le_refl _) (.cells #[.int .i64 g, .slice ao n cap] 30)
  have HB1 := Lib.hid hal
  have hz0 := cell_of_row (w.alloc (.cells #[.int .i64 g, .slice ao n cap] 30)) w.heap.size 0 _ _ _ (heap_alloc_new _ _)
  have hz1 := cell_of_row (w.alloc (.cells #[.int .i64 g, .slice ao n cap] 30)) w.heap.size 1 _ _ _ (heap_alloc_new _ _)
  clear hp hL hal hM
  go_enter Tryz.func5, Tryz.ntmps5
  go_upto_region 1 with fail
  generalize w.alloc (.cells #[.int .i64 g, .slice ao n cap] 30) = w1 at *
  have HC : Hid (∀ V, Below w1.heap.size w1 V → V.cell? ⟨w.heap.size, 0, none⟩ = some (.int .i64 g) ∧ V.cell? ⟨w.heap.size, 1, none⟩ = some (.slice ao n cap) ∧ ProgAt V (.agg #[.int .i64 g, .slice ao n cap]) p ∧ RdEnv V ∧ Below w.heap.size w V) := Lib.hid fun V hV =>
    ⟨(Keeps.of_new (S := fun _ => False) hV).cell_of hz0 id, (Keeps.of_new (S := fun _ => False) hV).cell_of hz1 id, HP.out.below (HB1.out.trans (hV.mono HB1.out.size)), HL.out.below (HB1.out.trans (hV.mono HB1.out.size)), HB1.out.trans (hV.mono HB1.out.size)⟩
  clear hz0 hz1
  have hb1 : Below w1.heap.size w1 w1 := Below.refl _ _
  have HCD := Lib.hid (spelt_any w1 (HC.out _ hb1).2.2.2.1)
  go_wp2_with fail
  refine HCD.out.mono ?_
  rintro e w2 ⟨rfl, hb2⟩
  obtain ⟨c0, c1, hp2, hl2, -⟩ := HC.out _ hb2
  have HBG := Lib.hid (big_any p _ w2 hp2)
  have HB2 := Lib.hid hb2
  clear hp2 hl2 hb1 HCD
  go_wp2_with fail
  refine HBG.out.mono ?_
  rintro e w3 ⟨rfl, hb3⟩
  have HB3 := Lib.hid (HB2.out.trans (hb3.mono HB2.out.size))
  clear hb2 hb3 c0 c1 HBG
  cases hbg : bigB p with
  | true =>
    clear hbg
    go_wp2_with fail
    go_ret
    exact ⟨rfl, (HC.out _ HB3.out).2.2.2.2⟩
  | false =>
    have HSM : Hid (∀ f ∈ p.fns, f.code.length ≤ 120) := Lib.hid fun f hf => ((big_no hbg).2 f hf).2
    obtain ⟨c0, c1, hp3, hl3, -⟩ := HC.out _ HB3.out
    have HEN := Lib.hid (write_any p _ w3 hp3 (fun h => Nat.le_trans (small_len ((progE_iff _).1 h) HSM.out) (by decide)) hl3.tabs hl3.pow)
    have hpz : progE p = 0 ∨ progE p ≠ 0 := by omega
    clear hbg hp3 hl3
    go_wp2_with fail
    refine HEN.out.mono ?_
    rintro e w4 ⟨rfl, hb4⟩
    have HB4 := Lib.hid (HB3.out.trans (hb4.mono HB3.out.size))
    clear hb4 c0 c1 HEN
    obtain ⟨c0, c1, hp4, hl4, -⟩ := HC.out _ HB4.out
    rcases hpz with hz | hz
    · have HRB : Hid (∀ b l : Nat, 1 ≤ b → 1 ≤ l → (blindB b l (asmT p)).length ≤ 60000 → readA (blindB b l (asmT p)) = .ok p) := Lib.hid fun b l hb hl hs => read_blind ((progE_iff _).1 hz) b l hb hl hs
      have HSZ : Hid ((asmT p).length ≤ 60000) := Lib.hid (small_len ((progE_iff _).1 hz) HSM.out)
      rw [hz, errV_0, wrT_ok hz]
      generalize asmT p = T at *
      clear hz hp4 hl4
      have HSO : Hid (∀ W : World, MaxLB W → ∀ b, b ≤ 4 → Calls Tryz.prog 18 #[.string (stB T), .string ⟨#[32]⟩, .string (stB (Go.Lib.repeatL [32] b))] W fun e w' => e = .returned (.string (stB (putAt 32 (Go.Lib.repeatL [32] b) T))) ∧ Below W.heap.size W w') := Lib.hid fun W hW b hb =>
        put_any (stB T) ⟨#[32]⟩ 32 rfl (stB (Go.Lib.repeatL [32] b)) W (by rw [stB_size]; have := HSZ.out; omega) (by rw [rep_bytes, List.length_singleton]; omega) hW
      go_wp2_with (go_at_call 20; refine (pick_any bl 4 _ (by decide) (by decide)).mono ?_; rintro e wq ⟨b, hb, rfl, rfl⟩)
      have HB := Lib.hid hb
      have hbw : (1 + (b : Int)) = ((1 + b : Nat) : Int) := by omega
      rw [hbw]
      clear hbw hb
      have HRP := Lib.hid (rep_any ⟨#[32]⟩ (1 + b) w4 (by decide) (by have := HB.out; omega))
      refine HRP.out.mono ?_
      rintro e w5 ⟨rfl, hb5⟩
      have HB5 := Lib.hid (HB4.out.trans (hb5.mono HB4.out.size))
      have HM5 : Hid (MaxLB w5) := Lib.hid (HM.out.below (HC.out _ HB5.out).2.2.2.2)
      clear hb5 HRP
      have HS5 := Lib.hid (HSO.out w5 HM5.out (1 + b) (by have := HB.out; omega))
      go_wp2_with fail
      refine HS5.out.mono ?_
      rintro e w6 ⟨rfl, hb6⟩
      have HB6 := Lib.hid (HB5.out.trans (hb6.mono HB5.out.size))
      clear hb6 HS5 HSO c0 c1
      rw [rep_one]
      have HSZ2 : Hid ((putAt 32 (List.replicate (1 + b) 32) T).length ≤ 400000) := Lib.hid (by
        have h1 := put_len 32 (List.replicate (1 + b) 32) 4 (by rw [List.length_replicate]; have := HB.out; omega) (by decide) T
        have h2 := HSZ.out
        omega)
      have HRC : Hid (∀ l, 1 ≤ l → (putAt 10 (List.replicate l [32, 10]).flatten (putAt 32 (List.replicate (1 + b) 32) T)).length ≤ 60000 → readA (putAt 10 (List.replicate l [32, 10]).flatten (putAt 32 (List.replicate (1 + b) 32) T)) = .ok p) := Lib.hid fun l hl hs => HRB.out (1 + b) l (by omega) hl hs
      generalize putAt 32 (List.replicate (1 + b) 32) T = U at *
      clear HRB HSZ HM5
      go_wp2_with (go_at_call 20; refine (pick_any li 4 _ (by decide) (by decide)).mono ?_; rintro e wq ⟨l, hl, rfl, rfl⟩)
      have HLL := Lib.hid hl
      have hlw : (1 + (l : Int)) = ((1 + l : Nat) : Int) := by omega
      rw [hlw]
      clear hlw hl
      have HRP := Lib.hid (rep_any ⟨#[32, 10]⟩ (1 + l) w6 (by decide) (by have := HLL.out; omega))
      refine HRP.out.mono ?_
      rintro e w7 ⟨rfl, hb7⟩
      have HB7 := Lib.hid (HB6.out.trans (hb7.mono HB6.out.size))
      have HM7 : Hid (MaxLB w7) := Lib.hid (HM.out.below (HC.out _ HB7.out).2.2.2.2)
      clear hb7 HRP
      have HS7 := Lib.hid (put_any (stB U) ⟨#[10]⟩ 10 rfl (stB (Go.Lib.repeatL [32, 10] (1 + l))) w7 (by rw [stB_size]; have := HSZ2.out; omega) (by rw [rep_bytes]; have := HLL.out; show (1 + l) * 2 ≤ 100; omega) HM7.out)
      go_wp2_with fail
      refine HS7.out.mono ?_
      rintro e w8 ⟨rfl, hb8⟩
      have HB8 := Lib.hid (HB7.out.trans (hb8.mono HB7.out.size))
      clear hb8 HS7 HM7
      rw [stB_list, stB_list, rep_two]
      have HRD := Lib.hid (HRC.out (1 + l) (by omega))
      generalize putAt 10 (List.replicate (1 + l) [32, 10]).flatten U = V at *
      clear HRC HSZ2
      obtain ⟨-, -, -, hl8, -⟩ := HC.out _ HB8.out
      have HD := Lib.hid (asmRead_any (stB V) w8 hl8)
      have hsz : (stB V).size = V.length := stB_size V
      clear hl8
      by_cases hlong : 60000 < V.length
      · have hli : (60000 : Int) < (V.length : Int) := by omega
        clear HD HRD
        go_wp2_with fail
        go_ret
        exact ⟨rfl, (HC.out _ HB8.out).2.2.2.2⟩
      · have hli : ¬ (60000 : Int) < (V.length : Int) := by omega
        rw [stB_list, HRD.out (by omega)] at HD
        go_wp2_with fail
        refine HD.out.mono ?_
        rintro e w9 ⟨⟨v9, rfl, hp9⟩, hb9⟩
        have HP9 := Lib.hid hp9
        have HB9 := Lib.hid (HB8.out.trans (hb9.mono HB8.out.size))
        obtain ⟨_, rfl, a9, n9, c9, rfl, -⟩ := hp9
        obtain ⟨g9, hg9⟩ : ∃ g9, g9 = p.globals := ⟨_, rfl⟩
        rw [← hg9] at HP9 ⊢
        clear hb9 HD HRD hg9 hlong hli hsz
        have hal9 := (Below.refl w9.heap.size w9).alloc (Nat.le_refl _) (.cells #[.int .i64 g9, .slice a9 n9 c9] 30)
        have HBA := Lib.hid (HB9.out.trans (hal9.mono HB9.out.size))
        obtain ⟨c0, c1, hpA, -, -⟩ := HC.out _ HBA.out
        have HSP := Lib.hid (sameP_any p _ _ _ hpA (HP9.out.below hal9))
        clear hal9 hpA
        go_wp2_with fail
        refine HSP.out.mono ?_
        rintro e wB ⟨rfl, hbB⟩
        have HBB := Lib.hid (HBA.out.trans (hbB.mono HBA.out.size))
        clear hbB c0 c1
        go_wp2_with fail
        go_ret
        exact ⟨rfl, (HC.out _ HBB.out).2.2.2.2⟩
    · rw [errV_nz hz]
      clear hz hp4 hl4
      go_wp2_with fail
      go_ret
      exact ⟨rfl, (HC.out _ HB4.out).2.2.2.2⟩
end Go.Proofs.YtkeglkneobngnaaGreatDoor

namespace Go.Proofs.YtkeglkneobngnaaGreatDoor
open Go.RowKit Go.ChangeShapes Go.WideShapes Go.ChangeAt Cd

set_option maxRecDepth 100000 in
theorem insC_open {H : Type} {enc : TypeId × Value → H} {W : World} {base : Nat} {spare : Nat → Bool} {held : Bool} {fuel : Nat} {cs : List Value} {x : DataW H × List MemPlace}
    (hf : DataW.trod enc Tryz.prog W base spare held fuel 70 cs = some x) : ∃ v l, cs = [v] ∧ InsAt W v l := by
  have ce : Tryz.prog.cellsOf 75 = 2 := by kernel_rfl
  have ci : Tryz.prog.cellsOf 3 = 1 := by kernel_rfl
  rcases Go.Deep.open_slice Tryz.underlying70 hf with ⟨hcs, _⟩ | ⟨a, len, cap, m, n, D, Pl, hcs, _, hl, hm, hmm, _, hx⟩
  · exact ⟨_, [], hcs, insAt_nil W⟩
  · have hlm : len ≤ m := by rw [hmm]; split <;> omega
    have key : ∀ i, i < len → ∃ q : In, W.cell? (a.add (i * 2)) = some (.int .i64 q.1) ∧ W.cell? (a.add (i * 2 + 1)) = some (.int .i64 q.2) := by
      intro i hi
      obtain ⟨cs', h1, h2⟩ := hx i (by omega)
      rw [ce] at h1
      obtain ⟨_, hlen, hcell⟩ := World.cells?_some h1
      obtain ⟨xs, k, hk, hxy, _, hxl, hfs⟩ := DataW.trod_struct Tryz.underlying75 h2
      match xs, hxl, cs', hlen with
      | [y0, y1], _, [v0, v1], _ =>
        have g0 := hfs 0 _ rfl
        have g1 := hfs 1 _ rfl
        simp [ci] at g0 g1
        have e0 := hcell 0 (by omega)
        have e1 := hcell 1 (by omega)
        rw [Go.Deep.add_add] at e0 e1
        obtain ⟨n0, f0, _, w0⟩ := DataW.trod_int Tryz.underlying3 g0
        obtain ⟨n1, f1, _, w1⟩ := DataW.trod_int Tryz.underlying3 g1
        have f0' : v0 = .int .i64 n0 := by simpa using f0
        have f1' : v1 = .int .i64 n1 := by simpa using f1
        subst f0' f1'
        exact ⟨(n0, n1), by simpa using e0, by simpa using e1⟩
    obtain ⟨q, hq⟩ := Go.Deep.choose_lt key
    refine ⟨_, (List.range len).map q, hcs, some a, len, cap, rfl, by simp, hl, hm, fun h0 => ?_⟩
    obtain ⟨b, o, sp⟩ := a
    have h1 := (hq 0 (by omega)).1
    have hspot : sp = none := by simpa [Addr.add] using World.cell?_spot h1
    subst hspot
    refine ⟨b, o, rfl, World.block_lt_of_cell? _ _ h1, fun i x hi => ?_⟩
    rw [List.getElem?_map] at hi
    obtain ⟨j, hj, rfl⟩ := Option.map_eq_some_iff.1 hi
    have hil := (List.getElem?_eq_some_iff.1 hj).1
    rw [List.length_range] at hil
    rw [List.getElem?_range hil] at hj
    cases hj
    obtain ⟨g0, g1⟩ := hq i hil
    rw [add_plain] at g0 g1
    exact ⟨g0, by rw [Nat.add_assoc]; exact g1⟩
set_option maxRecDepth 100000 in
theorem intsC_open {H : Type} {enc : TypeId × Value → H} {W : World} {base : Nat} {spare : Nat → Bool} {held : Bool} {fuel : Nat} {cs : List Value} {x : DataW H × List MemPlace}
    (hf : DataW.trod enc Tryz.prog W base spare held fuel 69 cs = some x) : ∃ v l, cs = [v] ∧ IntsAt W v l := by
  have ci : Tryz.prog.cellsOf 3 = 1 := by kernel_rfl
  rcases open_ints Tryz.underlying69 Tryz.underlying3 ci hf with ⟨hcs, _⟩ | ⟨a, len, cap, zs, hcs, _, hl, hm, hz, _, hcell, hwz⟩
  · exact ⟨_, [], hcs, intsAt_nil W⟩
  · have hlz : len ≤ zs.length := by rw [hz]; split <;> omega
    refine ⟨_, zs.take len, hcs, some a, len, cap, rfl, by rw [List.length_take]; omega, hl, hm, fun h0 => ?_⟩
    obtain ⟨b, o, sp⟩ := a
    have h1 := hcell 0 (by omega)
    have hspot : sp = none := by simpa [Addr.add] using World.cell?_spot h1
    subst hspot
    refine ⟨b, o, rfl, World.block_lt_of_cell? _ _ (hcell 0 (by omega)), fun i hi => ?_⟩
    have := hcell i (by omega)
    rw [add_plain] at this
    rw [this]
    simp [List.getD_eq_getElem?_getD, hi]
set_option maxRecDepth 100000 in
theorem fnsC_open {H : Type} {enc : TypeId × Value → H} {W : World} {base : Nat} {spare : Nat → Bool} {held : Bool} {fuel : Nat} {cs : List Value} {x : DataW H × List MemPlace}
    (hf : DataW.trod enc Tryz.prog W base spare held fuel 28 cs = some x) : ∃ v l, cs = [v] ∧ FnsAt W v l := by
  have ce : Tryz.prog.cellsOf 72 = 4 := by kernel_rfl
  have ci : Tryz.prog.cellsOf 3 = 1 := by kernel_rfl
  have cl : Tryz.prog.cellsOf 69 = 1 := by kernel_rfl
  have cn : Tryz.prog.cellsOf 70 = 1 := by kernel_rfl
  rcases Go.Deep.open_slice Tryz.underlying28 hf with ⟨hcs, _⟩ | ⟨a, len, cap, m, n, D, Pl, hcs, _, hl, hm, hmm, _, hx⟩
  · exact ⟨_, [], hcs, fnsAt_nil W⟩
  · have hlm : len ≤ m := by rw [hmm]; split <;> omega
    have key : ∀ i, i < len → ∃ q : FnV, W.cell? (a.add (i * 4)) = some (.int .i64 q.params) ∧ (∃ vl, W.cell? (a.add (i * 4 + 1)) = some vl ∧ IntsAt W vl q.locals) ∧ W.cell? (a.add (i * 4 + 2)) = some (.int .i64 q.kind) ∧ ∃ vc, W.cell? (a.add (i * 4 + 3)) = some vc ∧ InsAt W vc q.code := by
      intro i hi
      obtain ⟨cs', h1, h2⟩ := hx i (by omega)
      rw [ce] at h1
      obtain ⟨_, hlen, hcell⟩ := World.cells?_some h1
      obtain ⟨xs, k, hk, hxy, _, hxl, hfs⟩ := DataW.trod_struct Tryz.underlying72 h2
      match xs, hxl, cs', hlen with
      | [y0, y1, y2, y3], _, [v0, v1, v2, v3], _ =>
        have g0 := hfs 0 _ rfl
        have g1 := hfs 1 _ rfl
        have g2 := hfs 2 _ rfl
        have g3 := hfs 3 _ rfl
        simp [ci, cl, cn] at g0 g1 g2 g3
        have e0 := hcell 0 (by omega)
        have e1 := hcell 1 (by omega)
        have e2 := hcell 2 (by omega)
        have e3 := hcell 3 (by omega)
        rw [Go.Deep.add_add] at e0 e1 e2 e3
        obtain ⟨n0, f0, _, w0⟩ := DataW.trod_int Tryz.underlying3 g0
        obtain ⟨vl, ls, f1, hls⟩ := intsC_open g1
        obtain ⟨n2, f2, _, w2⟩ := DataW.trod_int Tryz.underlying3 g2
        obtain ⟨vc, is, f3, his⟩ := insC_open g3
        have f0' : v0 = .int .i64 n0 := by simpa using f0
        have f1' : v1 = vl := by simpa using f1
        have f2' : v2 = .int .i64 n2 := by simpa using f2
        have f3' : v3 = vc := by simpa using f3
        subst f0' f1' f2' f3'
        exact ⟨⟨n0, ls, n2, is⟩, by simpa using e0, ⟨v1, by simpa using e1, hls⟩, by simpa using e2, v3, by simpa using e3, his⟩
    obtain ⟨q, hq⟩ := Go.Deep.choose_lt key
    refine ⟨_, (List.range len).map q, hcs, some a, len, cap, rfl, by simp, hl, hm, fun h0 => ?_⟩
    obtain ⟨b, o, sp⟩ := a
    have h1 := (hq 0 (by omega)).1
    have hspot : sp = none := by simpa [Addr.add] using World.cell?_spot h1
    subst hspot
    refine ⟨b, o, rfl, World.block_lt_of_cell? _ _ h1, fun i x hi => ?_⟩
    rw [List.getElem?_map] at hi
    obtain ⟨j, hj, rfl⟩ := Option.map_eq_some_iff.1 hi
    have hil := (List.getElem?_eq_some_iff.1 hj).1
    rw [List.length_range] at hil
    rw [List.getElem?_range hil] at hj
    cases hj
    obtain ⟨g0, ⟨vl, g1, g1'⟩, g2, vc, g3, g3'⟩ := hq i hil
    rw [add_plain] at g0 g1 g2 g3
    exact ⟨g0, ⟨vl, by rw [Nat.add_assoc]; exact g1, g1'⟩, by rw [Nat.add_assoc]; exact g2, vc, by rw [Nat.add_assoc]; exact g3, g3'⟩
set_option maxRecDepth 100000 in
theorem progAt_open {H : Type} {enc : TypeId × Value → H} {W : World} {base : Nat} {spare : Nat → Bool} {held : Bool} {v : Value} {d : DataW H} {p : List MemPlace}
    (hw : ∃ cs, v = .agg cs ∧ cs.size = Tryz.prog.cellsOf 30) (h : DataW.Trod enc Tryz.prog W base spare held 30 v d p) : ∃ (g : Int) (vf : Value) (q : Pg), v = .agg #[.int .i64 g, vf] ∧ ProgAt W (.agg #[.int .i64 g, vf]) q := by
  have cp : Tryz.prog.cellsOf 30 = 2 := by kernel_rfl
  have ci : Tryz.prog.cellsOf 3 = 1 := by kernel_rfl
  have cf : Tryz.prog.cellsOf 28 = 1 := by kernel_rfl
  obtain ⟨cs, rfl, hsz⟩ := hw
  rw [cp] at hsz
  obtain ⟨fuel, hf⟩ := h
  obtain ⟨xs, k, hk, hxy, _, hxl, hfs⟩ := DataW.trod_struct Tryz.underlying30 hf
  obtain ⟨l⟩ := cs
  match xs, hxl, l, hsz with
  | [y0, y1], _, [v0, v1], _ =>
    have g0 := hfs 0 _ rfl
    have g1 := hfs 1 _ rfl
    simp [ci, cf, Value.cells] at g0 g1
    obtain ⟨n0, f0, _, w0⟩ := DataW.trod_int Tryz.underlying3 g0
    obtain ⟨vf, fs, f1, hfs'⟩ := fnsC_open g1
    have f0' : v0 = .int .i64 n0 := by simpa using f0
    have f1' : v1 = vf := by simpa using f1
    subst f0' f1'
    exact ⟨n0, v1, ⟨n0, fs⟩, rfl, _, rfl, hfs'⟩
end Go.Proofs.YtkeglkneobngnaaGreatDoor

namespace Go.Proofs.YtkeglkneobngnaaGreatDoor
open Go.RowKit Cd As

theorem iface_of_trodA {H : Type} {enc : TypeId × Value → H} {P : Program} {w : World} {base : Nat} {sp : Nat → Bool} {fuel : Nat} {t : TypeId} {cs : List Value} {name : String} {d : DataW H} {p : List MemPlace}
    (ht : ∃ ms, P.underlying t = some (.interface ms)) (h : DataW.trod enc P w base sp false fuel t cs = some (.iface name d, p)) : ∃ u v, cs = [.iface u v] := by
  cases fuel with
  | zero => simp [DataW.trod] at h
  | succ fuel =>
    obtain ⟨ms, ht⟩ := ht
    match cs with
    | [] => simp [DataW.trod, ht] at h
    | a :: b :: r => simp [DataW.trod, ht] at h
    | [a] =>
      cases a <;> first | exact ⟨_, _, rfl⟩ | (simp [DataW.trod, ht] at h; done)
theorem gErrRA : Tryz.prog.globalNamed "strconv.ErrRange" = some 10 := by kernel_rfl
theorem tErrRA : (Tryz.prog.globals[10]?).map (·.type) = some 34 := by kernel_rfl
theorem gErrSA : Tryz.prog.globalNamed "strconv.ErrSyntax" = some 9 := by kernel_rfl
theorem tErrSA : (Tryz.prog.globals[9]?).map (·.type) = some 34 := by kernel_rfl
theorem ifaceAt_of {W : World} {name : String} {g : Nat} {nm : String} {d : DataW Unit} (hgn : Tryz.prog.globalNamed name = some g) (htn : (Tryz.prog.globals[g]?).map (·.type) = some 34) (r : Go.Lib.VarReads Tryz.prog W name (.iface nm d)) : IfaceAt W g := by
  obtain ⟨g2, t, cs, fuel, p, hg, hty, hvar, hd⟩ := r
  obtain rfl := Option.some.inj (hgn.symm.trans hg)
  obtain rfl := Option.some.inj (htn.symm.trans hty)
  obtain ⟨u, v, hcs⟩ := iface_of_trodA ⟨_, Tryz.underlying34⟩ hd
  refine ⟨u, v, ?_⟩
  have := World.var?_cell hgn hvar 0
  rw [this, ← Array.getElem?_toList, hcs]
  rfl
theorem rdEnv_of {W : World} {l : List (String × DataW Unit)} (h : laidMet Tryz.prog l W) (m1 : ("sluiceway/asm.names", Rows.laid_sluiceway_asm_names) ∈ l) (m2 : ("sluiceway/asm.kinds", Rows.laid_sluiceway_asm_kinds) ∈ l)
    (m3 : ("sluiceway/arith.signs", Rows.laid_sluiceway_arith_signs) ∈ l) (m4 : ("strconv.ErrRange", Rows.laid_strconv_ErrRange) ∈ l) (m5 : ("strconv.ErrSyntax", Rows.laid_strconv_ErrSyntax) ∈ l)
    (hp : (l.filter fun x => x.1 == "internal/strconv.uint64pow10") = [("internal/strconv.uint64pow10", Rows.laid_internal_strconv_uint64pow10)]) : RdEnv W := by
  have hN : NamesW W := by
    obtain ⟨g, t, cs, fuel, p, hg, hty, hvar, hd⟩ := Go.Lib.laidMet.reads h m1
    obtain rfl := Option.some.inj (gNames.symm.trans hg)
    obtain rfl := Option.some.inj (tNames.symm.trans hty)
    have hcs := cells_of_tabS (zs := namesB) Tryz.underlying161 Tryz.underlying9 cells_string cells_names hd
    intro n hn
    have := World.var?_cell gNames hvar n
    rw [this, ← Array.getElem?_toList, hcs, List.getElem?_map, List.getD_eq_getElem?_getD, List.getElem?_eq_getElem (show n < namesB.length from hn)]
    rfl
  have hK : KindsW W := by
    obtain ⟨g, t, cs, fuel, p, hg, hty, hvar, hd⟩ := Go.Lib.laidMet.reads h m2
    obtain rfl := Option.some.inj (gKinds.symm.trans hg)
    obtain rfl := Option.some.inj (tKinds.symm.trans hty)
    have hcs := cells_of_tabS (zs := kindsB) Tryz.underlying159 Tryz.underlying9 cells_string cells_kinds hd
    intro n hn
    have := World.var?_cell gKinds hvar n
    rw [this, ← Array.getElem?_toList, hcs, List.getElem?_map, List.getD_eq_getElem?_getD, List.getElem?_eq_getElem (show n < kindsB.length from hn)]
    rfl
  have hS : Signs W := by
    obtain ⟨g, t, cs, fuel, p, hg, hty, hvar, hd⟩ := Go.Lib.laidMet.reads h m3
    obtain rfl := Option.some.inj (gSigns.symm.trans hg)
    obtain rfl := Option.some.inj (tSigns.symm.trans hty)
    have hcs := cells_of_tabS (zs := signsL) Tryz.underlying193 Tryz.underlying9 cells_string cells_signs hd
    intro n hn
    have := World.var?_cell gSigns hvar n
    rw [this, ← Array.getElem?_toList, hcs, List.getElem?_map]
    unfold signL
    rw [List.getD_eq_getElem?_getD, List.getElem?_eq_getElem (show n < signsL.length from hn)]
    rfl
  have hP : Pow W := by
    have h1 := h.filter fun x => x.1 == "internal/strconv.uint64pow10"
    rw [hp] at h1
    exact Lib.tabIs_of_head (rest := []) gPow tPow Tryz.underlying239 Tryz.underlying58 cells_u64 cells_pow h1
  exact ⟨⟨hN, hK, hS⟩, hP, ifaceAt_of gErrRA tErrRA (Go.Lib.laidMet.reads h m4), ifaceAt_of gErrSA tErrSA (Go.Lib.laidMet.reads h m5)⟩
end Go.Proofs.YtkeglkneobngnaaGreatDoor

namespace Go.Proofs.YtkeglkneobngnaaGreatDoor
open Go.RowKit Cd As
theorem asmBlind_laid {W : World} (h : laidMetH Tryz.prog Rows.asmBlindRow.laid W) : RdEnv W ∧ True := by
  rw [MakeChecks.laidMetH_plain _ _ _ (by kernel_rfl)] at h
  refine ⟨?_, trivial⟩
  exact rdEnv_of h (by repeat' first | exact List.mem_cons_self .. | apply List.mem_cons_of_mem) (by repeat' first | exact List.mem_cons_self .. | apply List.mem_cons_of_mem) (by repeat' first | exact List.mem_cons_self .. | apply List.mem_cons_of_mem) (by repeat' first | exact List.mem_cons_self .. | apply List.mem_cons_of_mem) (by repeat' first | exact List.mem_cons_self .. | apply List.mem_cons_of_mem) rfl
theorem maxLB_cell {W : World} (h : W.ShapedOpen Tryz.prog) : MaxLB W := Tryz.laysM155.s1_3 W h
end Go.Proofs.YtkeglkneobngnaaGreatDoor

namespace Go.Proofs.YtkeglkneobngnaaGreatDoor
section
variable {H : Type} {enc : TypeId × Value → H}
theorem handed_shaped {C : Checked} {os : Os} {f : FuncId} {fn : Func} {s : ChangeSpec} {apart fresh handsOn again : Bool} {X : World → Array Value → Prop}
    (hX : ∀ (w w' : World) (args : Array Value), w.heap = w'.heap → X w args → X w' args) (own : ownKnob C.prog.godebug = none) (started : os.Started) (noInit : C.prog.inits.idxOf? f = none) (hfn : C.prog.funcs[f]? = some fn)
    (witness : ∃ (w : World) (tape : Tape) (i : Input), w.os = os ∧ (w.forCall tape i).Shaped C.prog ∧ i.vars = [] ∧ Input.okWide C.prog (w.forCall tape i) .any w.heap.size f i ∧
      ((s.pre enc C.prog fn [] apart (w.forCall tape i).memory i.args ∧ X (w.forCall tape i).memory i.args) ∧ sizedMet enc C.prog fn (OpenSpec.ofChange s) apart (w.forCall tape i).memory i.args) ∧ Assume.holds {} C.prog (lone (Frame.enter C.prog f i.args .normal) [] (w.forCall tape i)))
    (contract : ∀ (W : World) (base : Nat) (args : Array Value) (ds gs : List (DataW H)) (before : List MemPlace), (∀ (j : Nat) t v, fn.params[j]? = some t → args[j]? = some v → Value.okWide C.prog W .any base t v) →
      DataW.Whole enc C.prog fn.params.toList s.vars apart W args.toList ds gs before → X W args → W.ShapedOpen C.prog →
      Calls C.prog f args W fun e W' => ∃ v, e = .returned v ∧ s.post enc C.prog fn apart fresh handsOn again W args v W') :
    ReturnsInHanded {} C os f .any (fun w args => (s.pre enc C.prog fn [] apart w args ∧ X w args) ∧ sizedMet enc C.prog fn (OpenSpec.ofChange s) apart w args) (s.post enc C.prog fn apart fresh handsOn again) := by
  refine returnsInHanded_of_calls own started noInit witness ?_
  intro w tape i _ hsh _ hok hpre _
  obtain ⟨_, _, _, fn', hfn', _, _, _, _, hval⟩ := hok
  obtain rfl : fn' = fn := Option.some.inj (hfn'.symm.trans hfn)
  obtain ⟨⟨⟨ds, gs, before, hw, _⟩, hx⟩, _⟩ := hpre
  refine (contract (w.forCall tape i) w.heap.size i.args ds gs before hval (DataW.Whole.of_heap (w' := w.forCall tape i) (by rfl) hw) (hX _ _ _ (by rfl) hx) hsh).mono fun e W' ⟨v, he, hp⟩ => ?_
  subst he
  exact ChangeSpec.post_blind hp
end
end Go.Proofs.YtkeglkneobngnaaGreatDoor
