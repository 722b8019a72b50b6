/-
  Texts of one proof, in build order: The walk of package asm's Write. | The walk of the reference's AsmWrite (15.1). | A block and its first cells, which may be written. Of no chapter. | The walk of slices.Equal at numbers that are the same. | What the laws of package code ask of programs: sameProgram, big, tiny. | The laws' heldProgram. | errors.As at a target of type *api.Errno: what it does at an api.Errno (Go's own text of errors.As and errors.as, walked; the entries of internal/reflectlite by the model). | errors.As at a target of type *api.Errno, walked: at an api.Errno it is true, and the target holds it. | api.Tell, plain.Place at nil and at an api.Errno. | The laws' 'bare' at nil and at an api.Errno. | The laws' 'bare' at an error by its number. | The walk of the law AsmWrites: how any program is written is the document's. | A program of instructions that came in: what a walk is told of it. | A program of instructions that came in, and that its instructions' numbers are ints. | The walk of package asm's kindOf and opOf. | The walk of package asm's opOf: the table of names loaded whole, its values kept as one row. | The plain mathematics of chapter 15: strings.FieldsFunc at a blank is the words of a line, whatever its bytes. No walk. | The plain mathematics of chapter 15: the lines that have words, one behind the other; how a text is cut at the place of its first line feed. No walk. | The walks of package asm's number and numberOf. | What the variables that chapter 15's laws list give their walks. | What the listed variable errors.errorType gives the walks. | What the variables that the law AsmWrites lists give its walk. | A law's row that lists variables, walked from a world of which it is known that its variables have the shapes that their types say. Of no chapter.
-/
import Derived.Test.YtkeglkneobngnaaDoorW1
import Derived.WalkSpells
import Derived.WalkLawsBesides
import Derived.Deep.QuietTactic
import Derived.BigQuiet
import Derived.Deep.RegionHeld3
import Derived.Deep.DeepCutAuto
import Derived.Deep.CutRange
import Derived.Test.YtkeglkneobngnaaDoorRows
import Derived.WalkKit
import Derived.LaidEql
import Derived.LaidHandle
import Derived.Stop.Asserts
import Derived.RowKitTokens
import Derived.Lib.Hide
import Derived.RegionTactic
import Derived.ChangeAlike
import Derived.OpenShut
import Derived.ProofKit
import Derived.Deep.SlicePairs
import Derived.Deep.MidRow
import Derived.Deep.DrawnRows
import Derived.Lib.FieldsP
import Derived.Lib.IndexLaws
import Derived.Test.YtkeglkneobngnaaDoorWShelf
import Derived.Test.YtkeglkneobngnaaDoorTie
import Derived.PinnedBridge
import Derived.LaidMore
import Derived.Lib.LaidTab
import Derived.MakeChecks
import Derived.Handed
import Derived.HandedShaped
namespace Go.Proofs.YtkeglkneobngnaaDoor
open Go.RowKit Cd As

def nb (l : B) : List Nat := l.map UInt8.toNat
theorem nb_append (a b : B) : nb a ++ nb b = nb (a ++ b) := by simp [nb]
theorem nb_length (l : B) : (nb l).length = l.length := by simp [nb]
theorem nb_bytes (l : B) : Crc.Bytes (nb l) := fun x hx => by
  obtain ⟨c, _, rfl⟩ := List.mem_map.1 hx
  exact c.toNat_lt
theorem bs_stB (l : B) : bs (stB l) = nb l := by
  unfold bs nb stB
  simp
theorem txt_nb (l : B) : txt (nb l) = stB l := by
  rw [← bs_stB, txt_bs]
/-- A prefix of a program's text. -/
theorem asm_pre (p : Pg) {k j : Nat} {f : FnV} (hf : p.fns[k]? = some f) : (globL p ++ 10 :: (p.fns.take k).flatMap fnT ++ (As.headL f ++ [10]) ++ (f.code.take j).flatMap insT).length ≤ (asmT p).length := by
  obtain ⟨hk, rfl⟩ := List.getElem?_eq_some_iff.1 hf
  have e1 : p.fns = p.fns.take k ++ p.fns[k] :: p.fns.drop (k + 1) := by
    rw [List.getElem_cons_drop hk, List.take_append_drop]
  have e2 : p.fns[k].code = p.fns[k].code.take j ++ p.fns[k].code.drop j := (List.take_append_drop _ _).symm
  have e3 : (p.fns.flatMap fnT).length = ((p.fns.take k).flatMap fnT).length + (fnT p.fns[k]).length + ((p.fns.drop (k + 1)).flatMap fnT).length := by
    conv => lhs; rw [e1]
    rw [List.flatMap_append, List.flatMap_cons, List.length_append, List.length_append]
    omega
  have e4 : (p.fns[k].code.flatMap insT).length = ((p.fns[k].code.take j).flatMap insT).length + ((p.fns[k].code.drop j).flatMap insT).length := by
    conv => lhs; rw [e2]
    rw [List.flatMap_append, List.length_append]
  unfold asmT
  simp only [List.length_append, List.length_cons, List.length_nil, e3]
  unfold fnT
  simp only [List.length_append, List.length_cons, e4]
  omega

/-- What Write hands back. -/
def wrT (p : Pg) : ByteArray := if progE p = 0 then stB (asmT p) else stB []
theorem wrT_ok {p : Pg} (h : progE p = 0) : wrT p = stB (asmT p) := if_pos h
theorem wrT_bad {p : Pg} (h : progE p ≠ 0) : wrT p = stB [] := if_neg h
def preL (p : Pg) (k : Nat) : B := globL p ++ 10 :: (p.fns.take k).flatMap fnT
def preI (p : Pg) (k : Nat) (f : FnV) (j : Nat) : B := preL p k ++ (As.headL f ++ [10]) ++ (f.code.take j).flatMap insT
theorem preI_len (p : Pg) {k j : Nat} {f : FnV} (hf : p.fns[k]? = some f) : (preI p k f j).length ≤ (asmT p).length := asm_pre p hf
theorem preI_zero (p : Pg) (k : Nat) (f : FnV) : preI p k f 0 = preL p k ++ (As.headL f ++ [10]) := by simp [preI]
theorem preI_succ (p : Pg) (k : Nat) (f : FnV) {j : Nat} {i : In} (hi : f.code[j]? = some i) : preI p k f (j + 1) = preI p k f j ++ insT i := by
  unfold preI
  rw [List.take_add_one, hi, Option.toList_some, List.flatMap_append, List.flatMap_cons, List.flatMap_nil, List.append_nil]
  simp only [List.append_assoc]
theorem preI_end (p : Pg) {k : Nat} {f : FnV} (hf : p.fns[k]? = some f) : preI p k f f.code.length = preL p (k + 1) := by
  unfold preI preL
  rw [List.take_length, List.take_add_one, hf, Option.toList_some, List.flatMap_append, List.flatMap_cons, List.flatMap_nil, List.append_nil]
  unfold fnT
  simp only [List.append_assoc, List.cons_append, List.nil_append]
theorem preL_zero (p : Pg) : preL p 0 = globL p ++ [10] := rfl
theorem preL_end (p : Pg) : preL p p.fns.length = asmT p := by unfold preL asmT; rw [List.take_length]

set_option maxRecDepth 100000 in
set_option maxHeartbeats 6400000 in
theorem write_any (p : Pg) (v : Value) (w : World) (hp : ProgAt w v p) (hlen : progE p = 0 → (asmT p).length ≤ 1000000) (hv : AsmVars w) (hP : Pow w) :
    Calls Tryd.prog 14 #[v] w fun e w' => e = .returned (.tuple #[.string (wrT p), errV (progE p)]) ∧ Below w.heap.size w w' := by
  have HP := Lib.hid hp
  obtain ⟨vf, rfl, ao, n, cap, rfl, hn, hnc, hcm, hx⟩ := hp
  unfold maxLen at hcm
  have hb0 := (Below.refl w.heap.size w).alloc (Nat.le_refl _) (.cells #[.int .i64 p.globals, .slice ao n cap] 24)
  have HB0 := Lib.hid hb0
  have HN := Lib.hid hn
  have HV := Lib.hid (hv.below hb0)
  have HPW := Lib.hid (hP.below hb0)
  have HX : Hid (∀ W, Below w.heap.size w W → 0 < n → ∃ b o, ao = some ⟨b, o, none⟩ ∧ ∀ i f, p.fns[i]? = some f → FnAt W b (o + i * 4) f) := Lib.hid fun W hW h0 => by
    obtain ⟨b, o, h1, h2, h3⟩ := hx h0
    exact ⟨b, o, h1, fun i f hi => (h3 i f hi).below hW⟩
  have HR := Lib.hid (right_any p _ _ (HP.out.below hb0))
  have HRE : Hid (progE p = 0 ∨ progE p ≠ 0) := Lib.hid (by omega)
  obtain ⟨gl, hgl⟩ : ∃ gl, gl = p.globals := ⟨_, rfl⟩
  have HGL := Lib.hid hgl
  rw [← hgl] at HR HP hb0 HB0 HV HPW ⊢
  have hx0 := cell_of_row (w.alloc (.cells #[.int .i64 gl, .slice ao n cap] 24)) w.heap.size 0 _ _ _ (heap_alloc_new _ _)
  have hx1 := cell_of_row (w.alloc (.cells #[.int .i64 gl, .slice ao n cap] 24)) w.heap.size 1 _ _ _ (heap_alloc_new _ _)
  have hsz1 : w.heap.size < (w.alloc (.cells #[.int .i64 gl, .slice ao n cap] 24)).heap.size := by simp
  have hr9 := HRE.out
  have HLEN := Lib.hid hlen
  clear hx hn hv hP hgl HRE hlen
  go_enter Tryd.func14, Tryd.ntmps14
  go_upto_region 1 with fail
  generalize hW1 : w.alloc (.cells #[.int .i64 gl, .slice ao n cap] 24) = W1 at *
  clear hW1
  have HC : Hid (∀ V, Below W1.heap.size W1 V → V.cell? ⟨w.heap.size, 0, none⟩ = some (.int .i64 gl) ∧ V.cell? ⟨w.heap.size, 1, none⟩ = some (.slice ao n cap)) := Lib.hid fun V hV =>
    ⟨by rw [hV.cell (p := ⟨w.heap.size, 0, none⟩) hsz1]; exact hx0, by rw [hV.cell (p := ⟨w.heap.size, 1, none⟩) hsz1]; exact hx1⟩
  clear hx0 hx1 hb0
  obtain ⟨hx0, hx1⟩ := HC.out _ (Below.refl _ _)
  go_wp2_with fail
  refine HR.out.mono ?_
  rintro e w2 ⟨rfl, hb2⟩
  rcases hr9 with h0 | h0
  · have HPR := Lib.hid ((progE_iff p).1 h0)
    have HE : Hid (wrT p = stB (asmT p) ∧ progE p = 0) := Lib.hid ⟨wrT_ok h0, h0⟩
    have HLE := Lib.hid (HLEN.out h0)
    have hg1 : 0 ≤ gl ∧ gl ≤ 8 := by rw [HGL.out]; exact ⟨HPR.out.globals0, HPR.out.globals⟩
    have hn12 : n ≤ 12 := by rw [HN.out]; exact HPR.out.fns
    rw [h0, errV_0]
    clear hx0 hx1 h0 HLEN HR
    have hb3 := hb2.alloc hb2.size (.cells #[.pointer none, .slice none 0 0] 69)
    have HB3 := Lib.hid hb3
    have HBD := Lib.hid (bld_new w2)
    have HS3 : Hid (W1.heap.size ≤ w2.heap.size) := Lib.hid hb2.size
    have hsz3 : w2.heap.size < (w2.alloc (.cells #[.pointer none, .slice none 0 0] 69)).heap.size := by simp
    obtain ⟨hx0, hx1⟩ := HC.out _ hb3
    go_upto_region 5 with fail
    generalize hw3 : w2.alloc (.cells #[.pointer none, .slice none 0 0] 69) = w3 at *
    generalize hB4 : w2.heap.size = B4 at *
    clear hw3 hB4 hb2 hb3
    have HIT := Lib.hid (itoa_any gl (by omega) (by omega) w3 (HPW.out.below HB3.out))
    have hso : sOf gl = stB (Lib.itoa gl) := rfl
    rw [hso] at HIT
    have hil := itoa_len2 gl hg1.1 (by omega)
    have HG : Hid ((⟨#[103, 108, 111, 98, 97, 108, 115, 32]⟩ : ByteArray) ++ stB (Lib.itoa gl) ++ (⟨#[10]⟩ : ByteArray) = stB (preL p 0)) := Lib.hid (by
      have e1 : (⟨#[103, 108, 111, 98, 97, 108, 115, 32]⟩ : ByteArray) = stB (globB ++ [32]) := rfl
      have e2 : (⟨#[10]⟩ : ByteArray) = stB [10] := rfl
      rw [e1, e2, stB_append, stB_append, preL_zero, HGL.out]
      simp [globL, spaced])
    have hs1 : ¬ 9223372036854775807 < (⟨#[103, 108, 111, 98, 97, 108, 115, 32]⟩ : ByteArray).size + (stB (Lib.itoa gl)).size := by rw [stB_size]; show ¬ 9223372036854775807 < 8 + _; omega
    have hs2 : ¬ 9223372036854775807 < ((⟨#[103, 108, 111, 98, 97, 108, 115, 32]⟩ : ByteArray) ++ stB (Lib.itoa gl)).size + (⟨#[10]⟩ : ByteArray).size := by rw [ByteArray.size_append, stB_size]; show ¬ 9223372036854775807 < 8 + _ + 1; omega
    have HGS : Hid ((preL p 0).length ≤ 100) := Lib.hid (by
      have := congrArg ByteArray.size HG.out
      rw [stB_size, ByteArray.size_append, ByteArray.size_append, stB_size] at this
      have e1 : (⟨#[103, 108, 111, 98, 97, 108, 115, 32]⟩ : ByteArray).size = 8 := rfl
      have e2 : (⟨#[10]⟩ : ByteArray).size = 1 := rfl
      omega)
    generalize stB (Lib.itoa gl) = t at *
    clear hso hil
    go_wp2_with fail
    refine HIT.out.mono ?_
    rintro e w4 ⟨rfl, hb4⟩
    have HB4 := Lib.hid (HB3.out.trans (hb4.mono HB3.out.size))
    have HBD4 := Lib.hid (HBD.out.below hb4)
    have hB4 : B4 ≤ w4.heap.size := by have := hb4.size; omega
    have HWS := Lib.hid (writeString_any B4 B4 [] (stB (preL p 0)) w4 HBD4.out (by rw [stB_size]; have := HGS.out; simp; omega) hB4)
    obtain ⟨hx0, hx1⟩ := HC.out _ HB4.out
    clear hb4 HIT HBD HBD4
    go_wp2_with fail
    rw [HG.out]
    refine HWS.out.mono ?_
    rintro e w5 ⟨rfl, hbd5, hb5⟩
    have HB5 := Lib.hid (HB4.out.trans (hb5.mono HS3.out))
    have HBD5 : Hid (Bld B4 B4 (nb (preL p 0)) w5) := Lib.hid (by rw [List.nil_append, bs_stB] at hbd5; exact hbd5)
    have hB5 : B4 ≤ w5.heap.size := Nat.le_trans hB4 hb5.size
    clear hbd5 hb5 HWS HB4 hx0 hx1 hB4 HB3 hsz3 HG hs1 hs2
    obtain ⟨hx0, hx1⟩ := HC.out _ HB5.out
    go_wp2_with fail
    go_loopw [24] (fun iv wr => ∃ k : Nat, k ≤ n ∧ iv = .int .i64 k ∧ Bld B4 B4 (nb (preL p k)) wr ∧ Below W1.heap.size W1 wr ∧ B4 ≤ wr.heap.size) (fun iv _ => n - (intOf iv).toNat)
    case atStart => exact ⟨0, Nat.zero_le _, rfl, HBD5.out, HB5.out, hB5⟩
    case round =>
      obtain ⟨k, hk, rfl, hbd, hbel, hle⟩ := hrel
      rename World => wr
      have HBD := Lib.hid hbd
      have HB := Lib.hid hbel
      clear hbd hbel HBD5 HB5 hB5 hx0 hx1
      by_cases hkn : k < n
      · obtain ⟨b, o, rfl, hfn⟩ := HX.out w (Below.refl _ _) (by omega)
        have hbr : Below w.heap.size w wr := HB0.out.trans (HB.out.mono HB0.out.size)
        have hkr := keeps_none hbr
        have hkl : k < p.fns.length := by rw [← HN.out]; exact hkn
        obtain ⟨f, hf⟩ : ∃ f, p.fns[k]? = some f := ⟨_, List.getElem?_eq_getElem hkl⟩
        obtain ⟨hc1, ⟨vl, hc2, hli⟩, hc3, vc, hc4, hci⟩ := hfn k f hf
        have HF := Lib.hid hf
        replace hc1 := hkr.cell_of hc1 id
        replace hc2 := hkr.cell_of hc2 id
        replace hc3 := hkr.cell_of hc3 id
        replace hc4 := hkr.cell_of hc4 id
        have HLI := Lib.hid (hli.below hbr)
        have HFR : Hid (FnR f) := Lib.hid (HPR.out.each f (List.mem_of_getElem? hf))
        have hi1 : (k : Int) < (n : Int) := by omega
        clear hfn hf hkl hli hkr hbr
        obtain ⟨pa, hpa⟩ : ∃ x, x = f.params := ⟨_, rfl⟩
        obtain ⟨ki, hki⟩ : ∃ x, x = f.kind := ⟨_, rfl⟩
        rw [← hpa] at hc1
        rw [← hki] at hc3
        have hal := (Below.refl wr.heap.size wr).alloc (Nat.le_refl _) (.cells #[.int .i64 pa, vl, .int .i64 ki, vc] 44)
        have HBA := Lib.hid (HB.out.trans (hal.mono HB.out.size))
        have HHD : Hid (Calls Tryd.prog 37 #[.agg #[.int .i64 pa, vl, .int .i64 ki, vc]] (wr.alloc (.cells #[.int .i64 pa, vl, .int .i64 ki, vc] 44)) fun e w' => e = .returned (.string (stB (As.headL f ++ [10]))) ∧ Below (wr.alloc (.cells #[.int .i64 pa, vl, .int .i64 ki, vc] 44)).heap.size (wr.alloc (.cells #[.int .i64 pa, vl, .int .i64 ki, vc] 44)) w') := Lib.hid (by
          have := headLine_any f vl vc (wr.alloc (.cells #[.int .i64 pa, vl, .int .i64 ki, vc] 44)) HFR.out (HLI.out.below hal) (HV.out.below HBA.out) (HPW.out.below HBA.out)
          rw [← hpa, ← hki] at this
          exact this)
        obtain ⟨a2, m, c2, hvc, hm, hmc, hcm2, hx2⟩ := hci
        unfold maxLen at hcm2
        subst hvc
        have HM := Lib.hid hm
        have HX2 : Hid (∀ W, Below w.heap.size w W → 0 < m → ∃ b o, a2 = some ⟨b, o, none⟩ ∧ ∀ i x, f.code[i]? = some x → W.cell? ⟨b, o + i * 2, none⟩ = some (.int .i64 x.1) ∧ W.cell? ⟨b, o + i * 2 + 1, none⟩ = some (.int .i64 x.2)) := Lib.hid fun W hW h0 => by
          obtain ⟨b, o, h1, h2, h3⟩ := hx2 h0
          refine ⟨b, o, h1, fun i x hi => ?_⟩
          rw [hW.cell (p := ⟨b, o + i * 2, none⟩) h2, hW.cell (p := ⟨b, o + i * 2 + 1, none⟩) h2]
          exact h3 i x hi
        have HXB : Hid ((wr.alloc (.cells #[.int .i64 pa, vl, .int .i64 ki, .slice a2 m c2] 44)).heap[wr.heap.size]? = some (.cells #[.int .i64 pa, vl, .int .i64 ki, .slice a2 m c2] 44 (0, 0))) := Lib.hid (heap_alloc_new _ _)
        have hy0 : (wr.alloc (.cells #[.int .i64 pa, vl, .int .i64 ki, .slice a2 m c2] 44)).cell? ⟨wr.heap.size, 0, none⟩ = some (.int .i64 pa) := cell_of_row _ _ _ _ _ _ (heap_alloc_new _ _)
        have hy1 : (wr.alloc (.cells #[.int .i64 pa, vl, .int .i64 ki, .slice a2 m c2] 44)).cell? ⟨wr.heap.size, 1, none⟩ = some vl := cell_of_row _ _ _ _ _ _ (heap_alloc_new _ _)
        have hy2 : (wr.alloc (.cells #[.int .i64 pa, vl, .int .i64 ki, .slice a2 m c2] 44)).cell? ⟨wr.heap.size, 2, none⟩ = some (.int .i64 ki) := cell_of_row _ _ _ _ _ _ (heap_alloc_new _ _)
        have hy3 : (wr.alloc (.cells #[.int .i64 pa, vl, .int .i64 ki, .slice a2 m c2] 44)).cell? ⟨wr.heap.size, 3, none⟩ = some (.slice a2 m c2) := cell_of_row _ _ _ _ _ _ (heap_alloc_new _ _)
        have HBD1 := Lib.hid (HBD.out.below hal)
        have HNE : Hid (wr.heap.size ≠ B4) := Lib.hid (by
          have : B4 < wr.heap.size := by
            rcases HBD.out with ⟨_, v, h, _⟩ | ⟨_, v, h, _⟩
            · exact (Array.getElem?_eq_some_iff.1 h).1
            · exact (Array.getElem?_eq_some_iff.1 h).1
          omega)
        obtain ⟨a1, n1, c1, hvl, -⟩ := HLI.out
        subst hvl
        clear hx2 hm hpa hki
        go_upto_region 9 with fail
        have HAL := Lib.hid hal
        generalize hwa : wr.alloc (.cells #[.int .i64 pa, .slice a1 n1 c1, .int .i64 ki, .slice a2 m c2] 44) = wa at *
        have hla : B4 ≤ wa.heap.size := Nat.le_trans hle hal.size
        generalize hxb : wr.heap.size = xb at *
        clear hwa hal hc1 hc2 hc3 hc4
        go_wp2_with fail
        refine HHD.out.mono ?_
        rintro e w6 ⟨rfl, hb6⟩
        have HB6 := Lib.hid (HBA.out.trans (hb6.mono HBA.out.size))
        have HBD6 := Lib.hid (HBD1.out.below hb6)
        have HK6 : Hid (KeptX B4 wa w6) := Lib.hid (KeptX.below hb6)
        have hl6 : B4 ≤ w6.heap.size := Nat.le_trans hla hb6.size
        have HP0 := Lib.hid (preI_zero p k f)
        have hlen6 : (nb (preL p k)).length + (stB (As.headL f ++ [10])).size ≤ 1000000 := by
          have h1 := preI_len p (j := 0) HF.out
          rw [HP0.out, List.length_append] at h1
          have h2 := HLE.out
          rw [nb_length, stB_size]
          omega
        have HWS := Lib.hid (writeStringK_any B4 B4 _ (stB (As.headL f ++ [10])) w6 HBD6.out hlen6 hl6)
        rw [bs_stB, nb_append, ← HP0.out] at HWS
        clear hb6 HHD HBD1 HBD6 hy0 hy1 hy2 hlen6 hla
        generalize stB (As.headL f ++ [10]) = t6 at *
        go_wp2_with fail
        refine HWS.out.mono ?_
        rintro e w7 ⟨rfl, hbd7, hb7, hk7⟩
        have hy3 : w7.cell? ⟨xb, 3, none⟩ = some (.slice a2 m c2) := by
          rw [(HK6.out.trans hk7).cell HNE.out (by decide) HXB.out]
          exact hy3
        have HB7 := Lib.hid (HB6.out.trans (hb7.mono (Nat.le_trans HS3.out (Nat.le_refl _))))
        have HBD7 := Lib.hid hbd7
        have hl7 : B4 ≤ w7.heap.size := Nat.le_trans hl6 hb7.size
        clear hbd7 hb7 hk7 HWS HB6 HK6 hl6
        go_wp2_with fail
        go_loopw [34] (fun iv wq => ∃ j : Nat, j ≤ m ∧ iv = .int .i64 j ∧ Bld B4 B4 (nb (preI p k f j)) wq ∧ Below W1.heap.size W1 wq ∧ B4 ≤ wq.heap.size) (fun iv _ => m - (intOf iv).toNat)
        case atStart => exact ⟨0, Nat.zero_le _, rfl, HBD7.out, HB7.out, hl7⟩
        case round =>
          obtain ⟨j, hj, rfl, hbd, hbel, hle9⟩ := hrel
          rename World => wq
          have HBQ := Lib.hid hbd
          have HQ := Lib.hid hbel
          clear hbd hbel HBD7 HB7 hl7 hy3
          by_cases hjm : j < m
          · obtain ⟨b9, o9, rfl, hcell⟩ := HX2.out wq (HB0.out.trans (HQ.out.mono HB0.out.size)) (by omega)
            have hjl : j < f.code.length := by rw [← HM.out]; exact hjm
            obtain ⟨i, hi⟩ : ∃ i, f.code[j]? = some i := ⟨_, List.getElem?_eq_getElem hjl⟩
            obtain ⟨hd1, hd2⟩ := hcell j i hi
            have HMB := Lib.hid (HFR.out.ins i (List.mem_of_getElem? hi))
            have HPS := Lib.hid (preI_succ p k f hi)
            have hji : (j : Int) < (m : Int) := by omega
            clear hcell hjl hi
            obtain ⟨op, nn⟩ := i
            dsimp only at hd1 hd2
            have hal9 := (Below.refl wq.heap.size wq).alloc (Nat.le_refl _) (.cells #[.int .i64 op, .int .i64 nn] 52)
            have HQA := Lib.hid (HQ.out.trans (hal9.mono HQ.out.size))
            have HIL := Lib.hid (insLine_any (op, nn) (wq.alloc (.cells #[.int .i64 op, .int .i64 nn] 52)) HMB.out (HV.out.below HQA.out) (HPW.out.below HQA.out))
            have HBQ1 := Lib.hid (HBQ.out.below hal9)
            have hz0 : (wq.alloc (.cells #[.int .i64 op, .int .i64 nn] 52)).cell? ⟨wq.heap.size, 0, none⟩ = some (.int .i64 op) := cell_of_row _ _ _ _ _ _ (heap_alloc_new _ _)
            have hz1 : (wq.alloc (.cells #[.int .i64 op, .int .i64 nn] 52)).cell? ⟨wq.heap.size, 1, none⟩ = some (.int .i64 nn) := cell_of_row _ _ _ _ _ _ (heap_alloc_new _ _)
            have hl8 : B4 ≤ (wq.alloc (.cells #[.int .i64 op, .int .i64 nn] 52)).heap.size := Nat.le_trans hle9 hal9.size
            go_upto_region 13 with fail
            generalize hwqa : wq.alloc (.cells #[.int .i64 op, .int .i64 nn] 52) = wqa at *
            generalize hxq : wq.heap.size = xq at *
            clear hwqa hxq hal9 hd1 hd2
            go_wp2_with fail
            refine HIL.out.mono ?_
            rintro e w8 ⟨rfl, hb8⟩
            have HB8 := Lib.hid (HQA.out.trans (hb8.mono HQA.out.size))
            have HBQ8 := Lib.hid (HBQ1.out.below hb8)
            have hl9 : B4 ≤ w8.heap.size := Nat.le_trans hl8 hb8.size
            have hlen8 : (nb (preI p k f j)).length + (stB (insT (op, nn))).size ≤ 1000000 := by
              have h1 := preI_len p (j := j + 1) HF.out
              rw [HPS.out, List.length_append] at h1
              have h2 := HLE.out
              rw [nb_length, stB_size]
              omega
            have HWS := Lib.hid (writeString_any B4 B4 _ (stB (insT (op, nn))) w8 HBQ8.out hlen8 hl9)
            rw [bs_stB, nb_append, ← HPS.out] at HWS
            clear hb8 HIL HBQ1 HBQ8 hz0 hz1 hlen8 hl8
            generalize stB (insT (op, nn)) = t8 at *
            go_wp2_with fail
            refine HWS.out.mono ?_
            rintro e w9 ⟨rfl, hbd9, hb9⟩
            have HBD9 := Lib.hid hbd9
            have HB9 := Lib.hid (HB8.out.trans (hb9.mono HS3.out))
            have hl10 : B4 ≤ w9.heap.size := Nat.le_trans hl9 hb9.size
            clear hbd9 hb9 HWS HB8
            go_wp2_with fail
            go_roundw
            case rel => exact ⟨j + 1, by omega, by go_num, HBD9.out, HB9.out, hl10⟩
            case measure => simp [intOf]; omega
          · obtain rfl : j = m := by omega
            have HPE := Lib.hid (preI_end p HF.out)
            have HBD9 : Hid (Bld B4 B4 (nb (preL p (k + 1))) wq) := Lib.hid (by
              have := HBQ.out
              rw [HM.out, HPE.out] at this
              exact this)
            clear HX2
            go_wp2_with fail
            go_roundw
            case rel => exact ⟨k + 1, by omega, by go_num, HBD9.out, HQ.out, hle9⟩
            case measure => simp [intOf]; omega
      · obtain rfl : k = n := by omega
        have HSE : Hid (Bld B4 B4 (nb (asmT p)) wr) := Lib.hid (by
          have := HBD.out
          rw [HN.out, preL_end] at this
          exact this)
        have HST := Lib.hid (bldString_any B4 B4 _ wr HSE.out (nb_bytes _) hle)
        rw [txt_nb] at HST
        clear HX
        go_wp2_with fail
        refine HST.out.mono ?_
        rintro e w9 ⟨rfl, hb9⟩
        go_wp2_with fail
        go_ret2
        exact ⟨by rw [HE.out.1, HE.out.2]; rfl, HB0.out.trans ((HB.out.trans (hb9.mono HS3.out)).mono HB0.out.size)⟩
  · have HE : Hid (wrT p = stB [] ∧ progE p ≠ 0) := Lib.hid ⟨wrT_bad h0, h0⟩
    rw [errV_nz h0]
    clear h0
    go_wp2_with fail
    go_ret2
    exact ⟨by rw [HE.out.1, errV_nz HE.out.2]; rfl, HB0.out.trans (hb2.mono HB0.out.size)⟩
end Go.Proofs.YtkeglkneobngnaaDoor

namespace Go.Proofs.YtkeglkneobngnaaDoor
open Go.RowKit Cd As

theorem spaced_append (a b : List B) : spaced (a ++ b) = spaced a ++ spaced b := List.flatMap_append
def preH (p : Pg) (k : Nat) (f : FnV) (j : Nat) : B := preL p k ++ (fnB ++ spaced (kindW f.kind :: Lib.itoa f.params :: (f.locals.take j).map kindW))
theorem preH_end (p : Pg) (k : Nat) (f : FnV) : preH p k f f.locals.length ++ [10] = preI p k f 0 := by
  rw [preI_zero]
  unfold preH As.headL
  rw [List.take_length, List.append_assoc]
theorem preH_cut (p : Pg) (k : Nat) (f : FnV) (j : Nat) : preH p k f f.locals.length = preH p k f j ++ spaced ((f.locals.drop j).map kindW) := by
  unfold preH
  rw [List.take_length]
  conv => lhs; rw [← List.take_append_drop j f.locals, List.map_append]
  rw [← List.cons_append, ← List.cons_append, spaced_append]
  simp only [List.append_assoc]
theorem preH_len (p : Pg) {k j : Nat} {f : FnV} (hf : p.fns[k]? = some f) : (preH p k f j).length + 1 ≤ (asmT p).length := by
  have h1 := preI_len p (j := 0) hf
  rw [← preH_end, preH_cut p k f j] at h1
  simp only [List.length_append, List.length_singleton] at h1
  omega
theorem preH_succ (p : Pg) (k : Nat) (f : FnV) {j : Nat} (hj : j < f.locals.length) : preH p k f (j + 1) = preH p k f j ++ 32 :: kindW (f.locals.getD j 0) := by
  unfold preH
  rw [List.take_succ_eq_append_getElem hj, List.map_append, ← List.cons_append, ← List.cons_append, spaced_append, List.getD_eq_getElem?_getD, List.getElem?_eq_getElem hj]
  simp [spaced]
theorem head_text (p : Pg) (k : Nat) (f : FnV) : stB (preL p k) ++ ((⟨#[102, 110, 32]⟩ : ByteArray) ++ stB (kindW f.kind) ++ (⟨#[32]⟩ : ByteArray) ++ stB (Lib.itoa f.params)) = stB (preH p k f 0) := by
  have e1 : (⟨#[102, 110, 32]⟩ : ByteArray) = stB (fnB ++ [32]) := rfl
  have e2 : (⟨#[32]⟩ : ByteArray) = stB [32] := rfl
  rw [e1, e2]
  simp only [stB_append]
  congr 1
  unfold preH
  simp [spaced]
theorem glob_text (p : Pg) : (⟨#[103, 108, 111, 98, 97, 108, 115, 32]⟩ : ByteArray) ++ stB (Lib.itoa p.globals) ++ (⟨#[10]⟩ : ByteArray) = stB (preL p 0) := by
  have e1 : (⟨#[103, 108, 111, 98, 97, 108, 115, 32]⟩ : ByteArray) = stB (globB ++ [32]) := rfl
  have e2 : (⟨#[10]⟩ : ByteArray) = stB [10] := rfl
  rw [e1, e2, stB_append, stB_append, preL_zero]
  simp [globL, spaced]
theorem ins_text (i : In) : (⟨#[32, 32]⟩ : ByteArray) ++ stB (nameB i.1 ++ spaced (argB i)) ++ (⟨#[10]⟩ : ByteArray) = stB (insT i) := by
  have e1 : (⟨#[32, 32]⟩ : ByteArray) = stB [32, 32] := rfl
  have e2 : (⟨#[10]⟩ : ByteArray) = stB [10] := rfl
  rw [e1, e2, stB_append, stB_append]
  rfl
theorem kind_text (t : B) (x : B) : stB t ++ ((⟨#[32]⟩ : ByteArray) ++ stB x) = stB (t ++ 32 :: x) := by
  have e2 : (⟨#[32]⟩ : ByteArray) = stB [32] := rfl
  rw [e2, stB_append, stB_append]
  rfl

theorem below_after_drew {V V' : World} (h : Below V.drew.heap.size V.drew V') : Below V.heap.size V V' := (Below.drew (Below.refl V.heap.size V)).trans h

set_option maxRecDepth 100000 in
set_option maxHeartbeats 12800000 in
theorem rAsmWrite_any (p : Pg) (v : Value) (w : World) (hp : ProgAt w v p) (hR : RangeP p) (hM : MaxLB w) (hlen : progE p = 0 → (asmT p).length ≤ 1000000) :
    Calls Tryd.prog 13 #[v] w fun e w' => e = .returned (.tuple #[.string (wrT p), .int .i64 (progE p)]) ∧ Below w.heap.size w w' := by
  have HP := Lib.hid hp
  obtain ⟨vf, rfl, ao, n, cap, rfl, hn, hnc, hcm, hx⟩ := hp
  unfold maxLen at hcm
  have hb0 := (Below.refl w.heap.size w).alloc (Nat.le_refl _) (.cells #[.int .i64 p.globals, .slice ao n cap] 24)
  have HB0 := Lib.hid hb0
  have HN := Lib.hid hn
  have HRG := Lib.hid hR
  have HM := Lib.hid (hM.below hb0)
  have HX : Hid (∀ W, Below w.heap.size w W → 0 < n → ∃ b o, ao = some ⟨b, o, none⟩ ∧ ∀ i f, p.fns[i]? = some f → FnAt W b (o + i * 4) f) := Lib.hid fun W hW h0 => by
    obtain ⟨b, o, h1, h2, h3⟩ := hx h0
    exact ⟨b, o, h1, fun i f hi => (h3 i f hi).below hW⟩
  have HRR := Lib.hid (rRight_any p _ _ (HP.out.below hb0) hR HM.out)
  have hr9 : progE p = 0 ∨ progE p ≠ 0 := by omega
  have HGT := Lib.hid (glob_text p)
  obtain ⟨gl, hgl⟩ : ∃ gl, gl = p.globals := ⟨_, rfl⟩
  have HGL := Lib.hid hgl
  rw [← hgl] at HRR HP hb0 HB0 HM HGT ⊢
  have hx0 := cell_of_row (w.alloc (.cells #[.int .i64 gl, .slice ao n cap] 24)) w.heap.size 0 _ _ _ (heap_alloc_new _ _)
  have hx1 := cell_of_row (w.alloc (.cells #[.int .i64 gl, .slice ao n cap] 24)) w.heap.size 1 _ _ _ (heap_alloc_new _ _)
  have HLEN := Lib.hid hlen
  obtain ⟨R1, hR1⟩ : ∃ R, R = wrT p := ⟨_, rfl⟩
  obtain ⟨R2, hR2⟩ : ∃ R, R = progE p := ⟨_, rfl⟩
  have HR1 := Lib.hid hR1
  have HR2 := Lib.hid hR2
  rw [← hR1, ← hR2]
  clear hx hn hgl hlen hM hR hR1 hR2
  go_enter Tryd.func13, Tryd.ntmps13
  go_upto_region 1 with fail
  generalize w.alloc (.cells #[.int .i64 gl, .slice ao n cap] 24) = W1 at *
  have HC : Hid (∀ V, Below W1.heap.size W1 V → V.cell? ⟨w.heap.size, 0, none⟩ = some (.int .i64 gl) ∧ V.cell? ⟨w.heap.size, 1, none⟩ = some (.slice ao n cap) ∧ Below w.heap.size w V ∧ MaxLB V) := Lib.hid fun V hV =>
    ⟨(Keeps.of_new (S := fun _ => False) hV).cell_of hx0 id, (Keeps.of_new (S := fun _ => False) hV).cell_of hx1 id, HB0.out.trans (hV.mono HB0.out.size), HM.out.below hV⟩
  clear hx0 hx1 hb0
  obtain ⟨hx0, hx1, -, -⟩ := HC.out _ (Below.refl _ _)
  go_wp2_with fail
  refine HRR.out.mono ?_
  rintro e w2 ⟨rfl, hb2⟩
  rcases hr9 with h0 | h0
  · have HPR := Lib.hid ((progE_iff p).1 h0)
    have HE : Hid (R1 = stB (asmT p) ∧ R2 = 0) := Lib.hid ⟨by rw [HR1.out, wrT_ok h0], by rw [HR2.out, h0]⟩
    have HLE := Lib.hid (HLEN.out h0)
    have hg1 : 0 ≤ gl ∧ gl ≤ 8 := by rw [HGL.out]; exact ⟨HPR.out.globals0, HPR.out.globals⟩
    have hn12 : n ≤ 12 := by rw [HN.out]; exact HPR.out.fns
    have HB2 := Lib.hid hb2
    have HDG := Lib.hid (decimal_any gl w2 (by omega) (by omega))
    have hil := itoa_len2 gl hg1.1 (by omega)
    have hzs : (stB (Lib.itoa gl)).size ≤ 2 := by rw [stB_size]; exact hil
    have hz0 : (stB (preL p 0)).size ≤ 100 := by
      have := congrArg ByteArray.size HGT.out
      rw [ByteArray.size_append, ByteArray.size_append] at this
      have e1 : (⟨#[103, 108, 111, 98, 97, 108, 115, 32]⟩ : ByteArray).size = 8 := rfl
      have e2 : (⟨#[10]⟩ : ByteArray).size = 1 := rfl
      omega
    rw [h0]
    clear hx0 hx1 h0 HLEN HRR hb2 HR1 HR2 hil
    obtain ⟨hx0, hx1, -, -⟩ := HC.out _ HB2.out
    generalize stB (Lib.itoa gl) = t at *
    go_wp2_with fail
    refine HDG.out.mono ?_
    rintro e w3 ⟨rfl, hb3⟩
    have HB3 := Lib.hid (HB2.out.trans (hb3.mono HB2.out.size))
    clear hb3 hx0 hx1 HDG
    obtain ⟨hx0, hx1, -, -⟩ := HC.out _ HB3.out
    have hg8 : ¬ 9223372036854775807 < (⟨#[103, 108, 111, 98, 97, 108, 115, 32]⟩ : ByteArray).size + t.size := by show ¬ 9223372036854775807 < 8 + _; omega
    have hg9 : ¬ 9223372036854775807 < ((⟨#[103, 108, 111, 98, 97, 108, 115, 32]⟩ : ByteArray) ++ t).size + (⟨#[10]⟩ : ByteArray).size := by rw [ByteArray.size_append]; show ¬ 9223372036854775807 < 8 + _ + 1; omega
    go_wp2_with fail
    rw [HGT.out]
    clear hg8 hg9 HGT hz0 hzs
    go_loopw [25, 5] (fun iv sv wr => ∃ k : Nat, k ≤ n ∧ iv = .int .i64 k ∧ sv = .string (stB (preL p k)) ∧ Below W1.heap.size W1 wr) (fun iv _ _ => n - (intOf iv).toNat)
    case atStart => exact ⟨0, Nat.zero_le _, rfl, rfl, HB3.out⟩
    case round =>
      obtain ⟨k, hk, rfl, rfl, hbel⟩ := hrel
      rename World => wr
      have HB := Lib.hid hbel
      clear hbel hx0 hx1 HB3
      by_cases hkn : k < n
      · obtain ⟨b, o, rfl, hfn⟩ := HX.out wr (HC.out _ HB.out).2.2.1 (by omega)
        have hkl : k < p.fns.length := by rw [← HN.out]; exact hkn
        obtain ⟨f, hf⟩ : ∃ f, p.fns[k]? = some f := ⟨_, List.getElem?_eq_getElem hkl⟩
        obtain ⟨hc1, ⟨vl, hc2, hli⟩, hc3, vc, hc4, hci⟩ := hfn k f hf
        have HF := Lib.hid hf
        have HFR : Hid (FnR f) := Lib.hid (HPR.out.each f (List.mem_of_getElem? hf))
        have HIR : Hid (InsR f.code) := Lib.hid (HRG.out f (List.mem_of_getElem? hf))
        have hi1 : (k : Int) < (n : Int) := by omega
        obtain ⟨a1, n1, c1, rfl, hn1, hnc1, hcm1, hxl⟩ := hli
        obtain ⟨a2, n2, c2, rfl, hn2, hnc2, hcm2, hxc⟩ := hci
        unfold maxLen at hcm1 hcm2
        obtain ⟨pa, hpa⟩ : ∃ x, x = f.params := ⟨_, rfl⟩
        obtain ⟨q, hq⟩ : ∃ q : Nat, f.kind = (q : Int) := ⟨f.kind.toNat, (Int.toNat_of_nonneg HFR.out.kind0).symm⟩
        have hq4 : q < 4 := by have := HFR.out.kind; omega
        have hqi : (q : Int) < 4 := by omega
        rw [← hpa] at hc1
        rw [hq] at hc3
        have hp0 : 0 ≤ pa := by rw [hpa]; exact HFR.out.params0
        have hp12 : pa ≤ 12 := by rw [hpa]; have := HFR.out.params; have := HFR.out.locals; omega
        have hba := (Below.refl wr.heap.size wr).alloc (Nat.le_refl _) (.cells #[.int .i64 pa, .slice a1 n1 c1, .int .i64 (q : Int), .slice a2 n2 c2] 44)
        have HNN : Hid (n1 = f.locals.length ∧ n2 = f.code.length) := Lib.hid ⟨hn1, hn2⟩
        have HXL : Hid (∀ W, Below wr.heap.size wr W → 0 < n1 → ∃ b o, a1 = some ⟨b, o, none⟩ ∧ ∀ i, i < n1 → W.cell? ⟨b, o + i, none⟩ = some (.int .i64 (f.locals.getD i 0))) := Lib.hid fun W hW h0 => by
          obtain ⟨b, o, h1, h2, h3⟩ := hxl h0
          exact ⟨b, o, h1, fun i hi => by rw [hW.cell (p := ⟨b, o + i, none⟩) h2]; exact h3 i hi⟩
        have HXC : Hid (∀ W, Below wr.heap.size wr W → 0 < n2 → ∃ b o, a2 = some ⟨b, o, none⟩ ∧ ∀ i x, f.code[i]? = some x → W.cell? ⟨b, o + i * 2, none⟩ = some (.int .i64 x.1) ∧ W.cell? ⟨b, o + i * 2 + 1, none⟩ = some (.int .i64 x.2)) := Lib.hid fun W hW h0 => by
          obtain ⟨b, o, h1, h2, h3⟩ := hxc h0
          refine ⟨b, o, h1, fun i x hi => ?_⟩
          rw [hW.cell (p := ⟨b, o + i * 2, none⟩) h2, hW.cell (p := ⟨b, o + i * 2 + 1, none⟩) h2]
          exact h3 i x hi
        have HHT : Hid (stB (preL p k) ++ ((⟨#[102, 110, 32]⟩ : ByteArray) ++ stB (kindsB.getD q []) ++ (⟨#[32]⟩ : ByteArray) ++ stB (Lib.itoa pa)) = stB (preH p k f 0)) := Lib.hid (by
          have := head_text p k f
          rw [hq, ← hpa] at this
          exact this)
        have HBW : Hid (∀ W, Below wr.heap.size wr W → Below W1.heap.size W1 W) := Lib.hid fun W hW => HB.out.trans (hW.mono HB.out.size)
        have hzp : (stB (preL p k)).size ≤ 1000000 := by
          have h1 := preH_len p (j := 0) HF.out
          have h2 := HLE.out
          have h3 : (preL p k).length ≤ (preH p k f 0).length := by unfold preH; rw [List.length_append]; omega
          rw [stB_size]; omega
        have hzk : (stB (kindsB.getD q [])).size ≤ 4 := by rw [stB_size]; exact kinds_len ⟨q, hq4⟩
        have hzi : (stB (Lib.itoa pa)).size ≤ 2 := by rw [stB_size]; exact itoa_len2 pa hp0 hp12
        obtain ⟨tk, htk⟩ : ∃ tk, tk = stB (kindsB.getD q []) := ⟨_, rfl⟩
        have HTK := Lib.hid htk
        rw [← htk] at hzk HHT
        have hsA : ((⟨#[102, 110, 32]⟩ : ByteArray) ++ tk).size ≤ 7 := by
          rw [ByteArray.size_append]
          have : (⟨#[102, 110, 32]⟩ : ByteArray).size = 3 := rfl
          omega
        have hsB : ((⟨#[102, 110, 32]⟩ : ByteArray) ++ tk ++ (⟨#[32]⟩ : ByteArray)).size ≤ 8 := by
          rw [ByteArray.size_append]
          have : (⟨#[32]⟩ : ByteArray).size = 1 := rfl
          omega
        have hsC : ((⟨#[102, 110, 32]⟩ : ByteArray) ++ tk ++ (⟨#[32]⟩ : ByteArray) ++ stB (Lib.itoa pa)).size ≤ 10 := by
          rw [ByteArray.size_append]
          omega
        have hl3 : (⟨#[102, 110, 32]⟩ : ByteArray).size = 3 := rfl
        have hl1 : (⟨#[32]⟩ : ByteArray).size = 1 := rfl
        have hs1 : ¬ 9223372036854775807 < 3 + (tk).size := by omega
        have hs2 : ¬ 9223372036854775807 < ((⟨#[102, 110, 32]⟩ : ByteArray) ++ tk).size + 1 := by omega
        have hs2b : ¬ 9223372036854775807 < 3 + (tk).size + 1 := by omega
        have hs3 : ¬ 9223372036854775807 < ((⟨#[102, 110, 32]⟩ : ByteArray) ++ tk ++ (⟨#[32]⟩ : ByteArray)).size + (stB (Lib.itoa pa)).size := by omega
        have hs3b : ¬ 9223372036854775807 < 3 + (tk).size + 1 + (stB (Lib.itoa pa)).size := by omega
        have hs4 : ¬ 9223372036854775807 < (stB (preL p k)).size + ((⟨#[102, 110, 32]⟩ : ByteArray) ++ tk ++ (⟨#[32]⟩ : ByteArray) ++ stB (Lib.itoa pa)).size := by omega
        have hs4b : ¬ 9223372036854775807 < (stB (preL p k)).size + (3 + (tk).size + 1 + (stB (Lib.itoa pa)).size) := by omega
        clear hfn HX hf hkl hn1 hn2 hxl hxc hpa hq hl1 hl3 htk
        go_upto_region 8 with fail
        have hy0 : (wr.alloc (.cells #[.int .i64 pa, .slice a1 n1 c1, .int .i64 (q : Int), .slice a2 n2 c2] 44)).cell? ⟨wr.heap.size, 0, none⟩ = some (.int .i64 pa) := cell_of_row _ _ _ _ _ _ (heap_alloc_new _ _)
        have hy1 : (wr.alloc (.cells #[.int .i64 pa, .slice a1 n1 c1, .int .i64 (q : Int), .slice a2 n2 c2] 44)).cell? ⟨wr.heap.size, 1, none⟩ = some (.slice a1 n1 c1) := cell_of_row _ _ _ _ _ _ (heap_alloc_new _ _)
        have hy2 : (wr.alloc (.cells #[.int .i64 pa, .slice a1 n1 c1, .int .i64 (q : Int), .slice a2 n2 c2] 44)).cell? ⟨wr.heap.size, 2, none⟩ = some (.int .i64 (q : Int)) := cell_of_row _ _ _ _ _ _ (heap_alloc_new _ _)
        have hy3 : (wr.alloc (.cells #[.int .i64 pa, .slice a1 n1 c1, .int .i64 (q : Int), .slice a2 n2 c2] 44)).cell? ⟨wr.heap.size, 3, none⟩ = some (.slice a2 n2 c2) := cell_of_row _ _ _ _ _ _ (heap_alloc_new _ _)
        generalize wr.alloc (.cells #[.int .i64 pa, .slice a1 n1 c1, .int .i64 (q : Int), .slice a2 n2 c2] 44) = W2 at *
        have HBA := Lib.hid hba
        have HC2 : Hid (∀ V, Below W2.heap.size W2 V → V.cell? ⟨wr.heap.size, 0, none⟩ = some (.int .i64 pa) ∧ V.cell? ⟨wr.heap.size, 1, none⟩ = some (.slice a1 n1 c1) ∧ V.cell? ⟨wr.heap.size, 2, none⟩ = some (.int .i64 (q : Int)) ∧ V.cell? ⟨wr.heap.size, 3, none⟩ = some (.slice a2 n2 c2) ∧ Below wr.heap.size wr V) := Lib.hid fun V hV =>
          ⟨(Keeps.of_new (S := fun _ => False) hV).cell_of hy0 id, (Keeps.of_new (S := fun _ => False) hV).cell_of hy1 id, (Keeps.of_new (S := fun _ => False) hV).cell_of hy2 id, (Keeps.of_new (S := fun _ => False) hV).cell_of hy3 id, HBA.out.trans (hV.mono HBA.out.size)⟩
        have HKN : Hid (∀ V, Below W2.heap.size W2 V → Calls Tryd.prog 33 #[] V fun e w' => ∃ g, e = .returned (.slice (some ⟨g, 0, none⟩) 4 4) ∧ Below W2.heap.size W2 w' ∧ Hid (∀ V', Below w'.heap.size w' V' → ∀ k, k < 4 → V'.cell? ⟨g, k, none⟩ = some (.string (stB (kindsB.getD k []))))) := Lib.hid fun V hV =>
          (rKinds_any V).mono fun e w' ⟨h1, h2, h3⟩ => ⟨_, h1, hV.trans (h2.mono hV.size), Lib.hid fun V' hV' k hk => (Keeps.of_new (S := fun _ => False) hV').cell_of (h3 k hk) id⟩
        have HDC : Hid (∀ V, Below W2.heap.size W2 V → Calls Tryd.prog 32 #[.int .i64 pa] V fun e w' => e = .returned (.string (stB (Lib.itoa pa))) ∧ Below W2.heap.size W2 w' ∧ Below V.heap.size V w') := Lib.hid fun V hV =>
          (decimal_any pa V (by omega) (by omega)).mono fun e w' ⟨h1, h2⟩ => ⟨h1, hV.trans (h2.mono hV.size), h2⟩
        generalize stB (preL p k) = tp at *
        generalize stB (Lib.itoa pa) = ti at *
        clear hc1 hc2 hc3 hc4 hba hp0 hp12
        have hbb : Below W2.heap.size W2 W2 := Below.refl _ _
        go_cut [5] from 29 to 42 (fun v wx => v = .string (stB (preH p k f 0)) ∧ Below W2.heap.size W2 wx)
        case first =>
          go_region_with (first | (go_at_call 33; refine (HKN.out _ ?_).mono ?_; (first | assumption | exact Below.drew (by assumption)); rintro e V1 ⟨g, rfl, hv1, hcg⟩; have hck := hcg.out _ (Below.refl _ _) q hq4; rw [← HTK.out] at hck; obtain ⟨hz0, hz1, hz2, hz3, -⟩ := HC2.out _ hv1) | (go_at_call 32; refine (HDC.out _ ?_).mono ?_; (first | assumption | exact Below.drew (by assumption)); rintro e V2 ⟨rfl, hv2, hvv⟩; obtain ⟨hu0, hu1, hu2, hu3, -⟩ := HC2.out _ hv2; try (have hck2 := hcg.out _ (by first | exact hvv | exact below_after_drew hvv) q hq4; rw [← HTK.out] at hck2)))
          all_goals go_wp2_with fail
          all_goals go_meet
          all_goals exact ⟨congrArg Value.string HHT.out, by assumption⟩
        case rest =>
          obtain ⟨rfl, hb3⟩ := hcut
          rename World => W3
          have HB3 := Lib.hid hb3
          clear hbb hb3 hs1 hs2 hs2b hs3 hs3b hs4 hs4b hsA hsB hsC hzp hzi hzk HDC HHT
          obtain ⟨hy0, hy1, hy2, hy3, -⟩ := HC2.out _ HB3.out
          go_wp2_with fail
          go_loopw [45, 5] (fun iv sv wx => ∃ j : Nat, j ≤ n1 ∧ iv = .int .i64 j ∧ sv = .string (stB (preH p k f j)) ∧ Below W2.heap.size W2 wx) (fun iv _ _ => n1 - (intOf iv).toNat)
          case atStart => exact ⟨0, Nat.zero_le _, rfl, rfl, HB3.out⟩
          case round =>
            obtain ⟨j, hj, rfl, rfl, hbx⟩ := hrel
            rename World => wx
            have HBX := Lib.hid hbx
            clear hbx hy0 hy1 hy2 hy3 HB3
            have hzj : (stB (preH p k f j)).size ≤ 1000000 := by
              have h1 := preH_len p (j := j) HF.out
              have h2 := HLE.out
              rw [stB_size]; omega
            by_cases hjn : j < n1
            · obtain ⟨b9, o9, rfl, hcell⟩ := HXL.out _ (HC2.out _ HBX.out).2.2.2.2 (by omega)
              have hd1 := hcell j hjn
              have hjl : j < f.locals.length := by rw [← HNN.out.1]; exact hjn
              have hkd := HFR.out.kinds (f.locals.getD j 0) (by rw [List.getD_eq_getElem?_getD, List.getElem?_eq_getElem hjl]; exact List.getElem_mem hjl)
              have HPS := Lib.hid (preH_succ p k f hjl)
              obtain ⟨y, hy⟩ : ∃ y : Nat, f.locals.getD j 0 = (y : Int) := ⟨(f.locals.getD j 0).toNat, (Int.toNat_of_nonneg (by omega)).symm⟩
              rw [hy] at hd1 hkd HPS
              have hyi : (y : Int) < 4 := by omega
              have hy4 : y < 4 := by omega
              have hji : (j : Int) < (n1 : Int) := by omega
              have HKT : Hid (stB (preH p k f j) ++ ((⟨#[32]⟩ : ByteArray) ++ stB (kindsB.getD y [])) = stB (preH p k f (j + 1))) := Lib.hid (by rw [HPS.out]; exact kind_text _ _)
              have hzy : (stB (kindsB.getD y [])).size ≤ 4 := by rw [stB_size]; exact kinds_len ⟨y, hy4⟩
              have hl1 : (⟨#[32]⟩ : ByteArray).size = 1 := rfl
              have hsA : ((⟨#[32]⟩ : ByteArray) ++ stB (kindsB.getD y [])).size ≤ 5 := by rw [ByteArray.size_append]; omega
              obtain ⟨ty, hty⟩ : ∃ ty, ty = stB (kindsB.getD y []) := ⟨_, rfl⟩
              have HTY := Lib.hid hty
              rw [← hty] at hzy hsA HKT
              generalize stB (preH p k f j) = tj at *
              clear hcell HXL hjl hkd hy hl1 hty
              have HKX := Lib.hid (HKN.out _ HBX.out)
              go_wp2_with fail
              refine HKX.out.mono ?_
              rintro e w6 ⟨g6, rfl, hv6, hcg⟩
              have hck := hcg.out _ (Below.refl _ _) y hy4
              rw [← HTY.out] at hck
              have HB6 := Lib.hid hv6
              clear hcg hv6 HKX
              go_wp2_with fail
              go_roundw
              case rel => exact ⟨j + 1, by omega, by go_num, congrArg Value.string HKT.out, HB6.out⟩
              case measure => simp [intOf]; omega
            · obtain rfl : j = n1 := by omega
              have HPT : Hid (stB (preH p k f j) ++ (⟨#[10]⟩ : ByteArray) = stB (preI p k f 0)) := Lib.hid (by
                have e2 : (⟨#[10]⟩ : ByteArray) = stB [10] := rfl
                rw [e2, stB_append, HNN.out.1, preH_end])
              obtain ⟨hy0, hy1, hy2, hy3, -⟩ := HC2.out _ HBX.out
              have hl1 : (⟨#[10]⟩ : ByteArray).size = 1 := rfl
              generalize stB (preH p k f j) = tj at *
              clear HXL hl1
              go_wp2_with fail
              rw [HPT.out]
              clear hzj HPT
              go_loopw [62, 5] (fun iv sv wx => ∃ j : Nat, j ≤ n2 ∧ iv = .int .i64 j ∧ sv = .string (stB (preI p k f j)) ∧ Below W2.heap.size W2 wx) (fun iv _ _ => n2 - (intOf iv).toNat)
              case atStart => exact ⟨0, Nat.zero_le _, rfl, rfl, HBX.out⟩
              case round =>
                obtain ⟨q2, hq2, rfl, rfl, hbq⟩ := hrel
                rename World => wq
                have HBQ := Lib.hid hbq
                clear hbq hy0 hy1 hy2 hy3 HBX
                by_cases hqm : q2 < n2
                · obtain ⟨b9, o9, rfl, hcell⟩ := HXC.out _ (HC2.out _ HBQ.out).2.2.2.2 (by omega)
                  have hql : q2 < f.code.length := by rw [← HNN.out.2]; exact hqm
                  obtain ⟨c, hc⟩ : ∃ c, f.code[q2]? = some c := ⟨_, List.getElem?_eq_getElem hql⟩
                  obtain ⟨hd1, hd2⟩ := hcell q2 c hc
                  have hmb := HFR.out.ins c (List.mem_of_getElem? hc)
                  have hir := HIR.out c (List.mem_of_getElem? hc)
                  have HPS := Lib.hid (preI_succ p k f hc)
                  have hi3 : (q2 : Int) < (n2 : Int) := by omega
                  obtain ⟨x, y⟩ := c
                  dsimp only at hd1 hd2
                  have hbx := HBQ.out.alloc HBQ.out.size (.cells #[.int .i64 x, .int .i64 y] 52)
                  have HBY := Lib.hid hbx
                  have HRI := Lib.hid (rInsText_any (x, y) (wq.alloc (.cells #[.int .i64 x, .int .i64 y] 52)) hmb hir (HC.out _ (HBW.out _ (HC2.out _ hbx).2.2.2.2)).2.2.2)
                  have HIT := Lib.hid (ins_text (x, y))
                  have hzc : (stB (nameB x ++ spaced (argB (x, y)))).size ≤ 32 := by
                    have h1 := insT_len hmb
                    have h2 := congrArg ByteArray.size HIT.out
                    rw [ByteArray.size_append, ByteArray.size_append, stB_size (insT (x, y))] at h2
                    have h3 : (stB (nameB (x, y).1 ++ spaced (argB (x, y)))).size = (stB (nameB x ++ spaced (argB (x, y)))).size := rfl
                    omega
                  have hzq : (stB (preI p k f q2)).size ≤ 1000000 := by
                    have h1 := preI_len p (j := q2) HF.out
                    have h2 := HLE.out
                    rw [stB_size]; omega
                  have HFT : Hid (stB (preI p k f q2) ++ ((⟨#[32, 32]⟩ : ByteArray) ++ stB (nameB x ++ spaced (argB (x, y))) ++ (⟨#[10]⟩ : ByteArray)) = stB (preI p k f (q2 + 1))) := Lib.hid (by
                    rw [HPS.out, ← stB_append]
                    exact congrArg (fun z => stB (preI p k f q2) ++ z) HIT.out)
                  have hl2 : (⟨#[32, 32]⟩ : ByteArray).size = 2 := rfl
                  have hl1 : (⟨#[10]⟩ : ByteArray).size = 1 := rfl
                  have hsA : ((⟨#[32, 32]⟩ : ByteArray) ++ stB (nameB x ++ spaced (argB (x, y)))).size ≤ 34 := by rw [ByteArray.size_append]; omega
                  have hsB : ((⟨#[32, 32]⟩ : ByteArray) ++ stB (nameB x ++ spaced (argB (x, y))) ++ (⟨#[10]⟩ : ByteArray)).size ≤ 35 := by rw [ByteArray.size_append]; omega
                  generalize stB (preI p k f q2) = tq at *
                  dsimp only at HRI
                  generalize stB (nameB x ++ spaced (argB (x, y))) = tc at *
                  clear hcell HXC hql hc hir hmb hbx HIT hl1 hl2
                  go_wp2_with fail
                  refine HRI.out.mono ?_
                  rintro e w7 ⟨rfl, hb7⟩
                  have HB7 := Lib.hid (HBY.out.trans (hb7.mono HBY.out.size))
                  clear HRI hb7
                  go_wp2_with fail
                  go_roundw
                  case rel => exact ⟨q2 + 1, by omega, by go_num, congrArg Value.string HFT.out, HB7.out⟩
                  case measure => simp [intOf]; omega
                · obtain rfl : q2 = n2 := by omega
                  have HPE : Hid (stB (preI p k f q2) = stB (preL p (k + 1))) := Lib.hid (by rw [HNN.out.2, preI_end p HF.out])
                  have HBE := Lib.hid (HBW.out _ (HC2.out _ HBQ.out).2.2.2.2)
                  clear HXC
                  go_wp2_with fail
                  go_roundw
                  case rel => exact ⟨k + 1, by omega, by go_num, congrArg Value.string HPE.out, HBE.out⟩
                  case measure => simp [intOf]; omega
      · obtain rfl : k = n := by omega
        have HSE : Hid (stB (preL p k) = R1 ∧ R2 = 0) := Lib.hid ⟨by rw [HE.out.1, HN.out, preL_end], HE.out.2⟩
        have HBE := Lib.hid (HC.out _ HB.out).2.2.1
        clear HX
        go_wp2_with fail
        go_ret2
        exact ⟨by rw [HSE.out.1, HSE.out.2]; rfl, HBE.out⟩
  · have HE : Hid (R1 = stB [] ∧ R2 = progE p) := Lib.hid ⟨by rw [HR1.out, wrT_bad h0], HR2.out⟩
    have hz : ((progE p : Int) == 0) = false := by rw [beq_eq_false_iff_ne]; omega
    have HB2 := Lib.hid (HC.out _ hb2).2.2.1
    generalize progE p = E at *
    clear hb2 h0 HRR hx0 hx1
    go_wp2_with fail
    go_ret2
    exact ⟨by rw [HE.out.1, HE.out.2]; rfl, HB2.out⟩
end Go.Proofs.YtkeglkneobngnaaDoor

namespace Go.Proofs.YtkeglkneobngnaaDoor
open Go.RowKit

/-- A block and its first cells, which may be written. -/
structure BlkO (w : World) (b : Nat) (vs : List Value) : Prop where
  at_ : ∀ j v, vs[j]? = some v → w.cell? ⟨b, j, none⟩ = some v
  free : ∀ j, w.frozen? ⟨b, j, none⟩ = false
  lt : b < w.heap.size
theorem BlkO.new (w : World) (xs : Array Value) (t : TypeId) : BlkO (w.alloc (.cells xs t)) w.heap.size xs.toList :=
  ⟨fun j v h => by rw [World.cell?_alloc_at _ _ _ _ rfl]; simpa using h, fun j => World.frozen?_alloc_new w _ _ _, by simp⟩
theorem BlkO.keeps {w w' : World} {S : Nat → Prop} {b : Nat} {vs : List Value} (h : BlkO w b vs) (hk : Keeps S w w') (hs : ¬ S b) : BlkO w' b vs :=
  ⟨fun j v hv => hk.cell_of (h.at_ j v hv) hs, fun j => by rw [hk.frozen (p := ⟨b, j, none⟩) h.lt hs]; exact h.free j, Nat.lt_of_lt_of_le h.lt hk.size⟩
theorem BlkO.below {w w' : World} {b : Nat} {vs : List Value} (h : BlkO w b vs) (hb : Below w.heap.size w w') : BlkO w' b vs := h.keeps (S := fun _ => False) (Keeps.of_new hb) id
theorem BlkO.set {w : World} {b : Nat} {vs : List Value} (h : BlkO w b vs) (i : Nat) (u : Value) (hi : i < vs.length) : BlkO (w.setCell ⟨b, i, none⟩ u) b (vs.set i u) := by
  refine ⟨fun j v hv => ?_, fun j => by rw [World.frozen?_setCell]; exact h.free j, by simpa [World.setCell] using h.lt⟩
  by_cases hij : i = j
  · subst hij
    rw [List.getElem?_set_self hi] at hv
    cases hv
    exact World.cell?_setCell_same _ _ _ (h.at_ i _ (List.getElem?_eq_getElem hi))
  · rw [List.getElem?_set_ne hij] at hv
    rw [World.cell?_setCell_other _ _ _ _ (by intro e; injection e with _ e2; exact hij e2)]
    exact h.at_ j v hv
theorem own_set (w : World) (b i : Nat) (u : Value) : Keeps (fun j => j = b) w (w.setCell ⟨b, i, none⟩ u) := (Keeps.refl (fun j => j = b) w).setCell (p := ⟨b, i, none⟩) (Or.inl rfl) u
end Go.Proofs.YtkeglkneobngnaaDoor

namespace Go.Proofs.YtkeglkneobngnaaDoor
open Go.RowKit

set_option maxRecDepth 100000 in
set_option maxHeartbeats 1600000 in
theorem equalI_any (v u : Value) (l : List Int) (w : World) (hv : IntsAt w v l) (hu : IntsAt w u l) :
    Calls Tryd.prog 45 #[v, u] w fun e w' => e = .returned (.bool true) ∧ ∃ n, w' = w.drewN n := by
  obtain ⟨ao, n, cap, rfl, hn, hnc, hcm, hx⟩ := hv
  obtain ⟨ao2, n2, cap2, rfl, hn2, hnc2, hcm2, hx2⟩ := hu
  obtain rfl : n2 = n := by omega
  unfold maxLen at hcm hcm2
  have HX := Lib.hid hx
  have HX2 := Lib.hid hx2
  clear hx hx2 hn hn2
  go_enter Tryd.func45, Tryd.ntmps45
  go_wp2_with fail
  go_loopw [13] (fun i wr => ∃ (k m : Nat), k ≤ n2 ∧ i = .int .i64 k ∧ wr = w.drewN m) (fun i _ => n2 - (intOf i).toNat)
  case atStart => exact ⟨0, 0, Nat.zero_le _, rfl, rfl⟩
  case round =>
    obtain ⟨k, m, hk, rfl, rfl⟩ := hrel
    by_cases hkn : k < n2
    · obtain ⟨b, o, rfl, hbl, hcell⟩ := HX.out (by omega)
      obtain ⟨b2, o2, rfl, hbl2, hcell2⟩ := HX2.out (by omega)
      have hc1 := hcell k hkn
      have hd1 := hcell2 k hkn
      have hi1 : (0 : Int) ≤ (k : Int) ∧ (k : Int) < (n2 : Int) := by omega
      have hi2 : (k : Int) < (n2 : Int) := by omega
      clear hcell hcell2
      generalize l.getD k 0 = x at *
      go_wp2_with fail
      go_quiet (fail)
      go_wp2_with fail
      go_roundw
      case rel => exact ⟨k + 1, _, by omega, by go_num, rfl⟩
      case measure => simp [intOf]; omega
    · obtain rfl : k = n2 := by omega
      go_wp2_with fail
      go_ret
      exact ⟨rfl, _, rfl⟩
end Go.Proofs.YtkeglkneobngnaaDoor

namespace Go.Proofs.YtkeglkneobngnaaDoor
open Go.RowKit Cd

theorem InsAt.at {w : World} {v : Value} {l : List In} (h : InsAt w v l) : ∃ ao cap, v = .slice ao l.length cap ∧ l.length ≤ cap ∧ cap ≤ maxLen ∧ ∀ i x, l[i]? = some x → ∃ b o, ao = some ⟨b, o, none⟩ ∧ w.cell? ⟨b, o + i * 2, none⟩ = some (.int .i64 x.1) ∧ w.cell? ⟨b, o + i * 2 + 1, none⟩ = some (.int .i64 x.2) := by
  obtain ⟨ao, n, cap, rfl, rfl, hc, hm, hx⟩ := h
  refine ⟨ao, cap, rfl, hc, hm, fun i x hi => ?_⟩
  obtain ⟨b, o, h1, _, h3⟩ := hx (by have := (List.getElem?_eq_some_iff.1 hi).1; omega)
  exact ⟨b, o, h1, (h3 i x hi).1, (h3 i x hi).2⟩

set_option maxRecDepth 100000 in
set_option maxHeartbeats 1600000 in
theorem equalN_any (v u : Value) (l : List In) (w : World) (hv : InsAt w v l) (hu : InsAt w u l) :
    Calls Tryd.prog 46 #[v, u] w fun e w' => e = .returned (.bool true) ∧ ∃ n, w' = w.drewN n := by
  obtain ⟨a1, k1, rfl, hc1, hm1, h1⟩ := hv.at
  obtain ⟨a2, k2, rfl, hc2, hm2, h2⟩ := hu.at
  have H1 := Lib.hid h1
  have H2 := Lib.hid h2
  obtain ⟨n, hn⟩ : ∃ n, n = l.length := ⟨_, rfl⟩
  have HN := Lib.hid hn
  rw [← hn] at hc1 hc2 ⊢
  unfold maxLen at hm1
  clear hn hm2 h1 h2 hv hu
  go_enter Tryd.func46, Tryd.ntmps46
  go_wp2_with fail
  go_loopw [13] (fun i wr => ∃ (k m : Nat), k ≤ n ∧ i = .int .i64 k ∧ wr = w.drewN m) (fun i _ => n - (intOf i).toNat)
  case atStart => exact ⟨0, 0, Nat.zero_le _, rfl, rfl⟩
  case round =>
    obtain ⟨i, m, hi, rfl, rfl⟩ := hrel
    by_cases hin : i < n
    · obtain ⟨⟨x, y⟩, hx⟩ : ∃ x, l[i]? = some x := ⟨_, List.getElem?_eq_getElem (by rw [← HN.out]; exact hin)⟩
      obtain ⟨b1, o1, e1, g0, g1⟩ := H1.out i _ hx
      obtain ⟨b2, o2, e2, g3, g4⟩ := H2.out i _ hx
      subst e1 e2
      simp only at g0 g1 g3 g4
      have hii : (0 : Int) ≤ (i : Int) ∧ (i : Int) < (n : Int) := by omega
      clear hx H1 H2
      go_wp2_with fail
      go_quiet (fail)
      go_wp2_with fail
      go_roundw
      case rel => exact ⟨i + 1, _, by omega, by go_num, rfl⟩
      case measure => simp [intOf]; omega
    · obtain rfl : i = n := by omega
      have hnn : ¬ (i : Int) < (i : Int) := by omega
      go_wp2_with fail
      go_ret
      exact ⟨rfl, _, rfl⟩
theorem below_drewK {B : Nat} {a w : World} (h : Below B a w) (n : Nat) : Below B a (w.drewN n) := ⟨h.os, h.tape, h.output, h.size, h.block⟩

/-- Whether a program is too big to be held. -/
def bigB (p : Pg) : Bool := decide (14 < p.fns.length) || p.fns.any fun f => decide (14 < f.locals.length) || decide (120 < f.code.length)
theorem big_no {p : Pg} (h : bigB p = false) : p.fns.length ≤ 14 ∧ ∀ f ∈ p.fns, f.locals.length ≤ 14 ∧ f.code.length ≤ 120 := by
  unfold bigB at h
  rw [Bool.or_eq_false_iff] at h
  refine ⟨by simpa using h.1, fun f hf => ?_⟩
  have h2 := h.2
  rw [List.any_eq_false] at h2
  have := h2 f hf
  simp at this
  exact this
theorem big_at {p : Pg} {k : Nat} {f : FnV} (hf : p.fns[k]? = some f) (h : 14 < f.locals.length ∨ 120 < f.code.length) : bigB p = true := by
  unfold bigB
  rw [Bool.or_eq_true, List.any_eq_true]
  exact Or.inr ⟨f, List.mem_of_getElem? hf, by simpa using h⟩
theorem big_all {p : Pg} (h0 : p.fns.length ≤ 14) (h : ∀ (k : Nat) f, p.fns[k]? = some f → ¬ (14 < f.locals.length ∨ 120 < f.code.length)) : bigB p = false := by
  unfold bigB
  rw [Bool.or_eq_false_iff, List.any_eq_false]
  refine ⟨by simpa using h0, fun f hf => ?_⟩
  obtain ⟨k, hk, rfl⟩ := List.mem_iff_getElem.1 hf
  have := h k _ (List.getElem?_eq_getElem hk)
  simp
  omega

set_option maxRecDepth 100000 in
set_option maxHeartbeats 3200000 in
theorem big_any (p : Pg) (v : Value) (w : World) (hp : ProgAt w v p) :
    Calls Tryd.prog 16 #[v] w fun e w' => e = .returned (.bool (bigB p)) ∧ Below w.heap.size w w' := by
  obtain ⟨vf, rfl, ao, n, cap, rfl, hn, hnc, hcm, hx⟩ := hp
  unfold maxLen at hcm
  have hb0 := (Below.refl w.heap.size w).alloc (Nat.le_refl _) (.cells #[.int .i64 p.globals, .slice ao n cap] 24)
  have HB0 := Lib.hid hb0
  have HN := Lib.hid hn
  have HX : Hid (0 < n → ∃ b o, ao = some ⟨b, o, none⟩ ∧ ∀ i f, p.fns[i]? = some f → FnAt (w.alloc (.cells #[.int .i64 p.globals, .slice ao n cap] 24)) b (o + i * 4) f) := Lib.hid fun h0 => by
    obtain ⟨b, o, h1, h2, h3⟩ := hx h0
    exact ⟨b, o, h1, fun i f hi => (h3 i f hi).below hb0⟩
  obtain ⟨gl, hgl⟩ : ∃ gl, gl = p.globals := ⟨_, rfl⟩
  rw [← hgl] at HX HB0 ⊢
  have hx1 := cell_of_row (w.alloc (.cells #[.int .i64 gl, .slice ao n cap] 24)) w.heap.size 1 _ _ _ (heap_alloc_new _ _)
  clear hb0 hx hn hgl
  go_enter Tryd.func16, Tryd.ntmps16
  by_cases h14 : 14 < n
  · have h14i : (14 : Int) < (n : Int) := by omega
    have HBT : Hid (bigB p = true) := Lib.hid (by unfold bigB; rw [← HN.out, decide_eq_true h14]; rfl)
    go_wp2_with fail
    go_ret
    exact ⟨by rw [HBT.out]; rfl, HB0.out⟩
  have h14i : ¬ (14 : Int) < (n : Int) := by omega
  go_upto_region 1 with fail
  generalize w.alloc (.cells #[.int .i64 gl, .slice ao n cap] 24) = W1 at *
  have hx1' : W1.cell? ⟨w.heap.size, 1, none⟩ = some (.slice ao n cap) := hx1
  clear hx1
  go_wp2_with fail
  go_loopw [3] (fun iv wr => ∃ k : Nat, k ≤ n ∧ iv = .int .i64 k ∧ Hid (∀ (j : Nat) f, j < k → p.fns[j]? = some f → ¬ (14 < f.locals.length ∨ 120 < f.code.length)) ∧ wr = W1) (fun iv _ => n - (intOf iv).toNat)
  case atStart => exact ⟨0, Nat.zero_le _, rfl, Lib.hid (fun _ _ h => absurd h (Nat.not_lt_zero _)), rfl⟩
  case round =>
    obtain ⟨k, hk, rfl, hall, hwr⟩ := hrel
    subst hwr
    by_cases hkn : k < n
    · obtain ⟨b, o, rfl, hfn⟩ := HX.out (by omega)
      obtain ⟨f, hf⟩ : ∃ f, p.fns[k]? = some f := ⟨_, List.getElem?_eq_getElem (by rw [← HN.out]; exact hkn)⟩
      obtain ⟨hc1, ⟨vl, hc2, a1, n1, c1, rfl, hn1, hnc1, hcm1, -⟩, hc3, vc, hc4, a2, n2, c2, rfl, hn2, hnc2, hcm2, -⟩ := hfn k f hf
      have HF := Lib.hid hf
      have HNN : Hid (n1 = f.locals.length ∧ n2 = f.code.length) := Lib.hid ⟨hn1, hn2⟩
      have hi1 : (0 : Int) ≤ (k : Int) ∧ (k : Int) < (n : Int) := by omega
      unfold maxLen at hcm1 hcm2
      clear hfn hf hn1 hn2 hc1 hc3 HX
      by_cases g1 : 14 < n1
      · have g1i : (14 : Int) < (n1 : Int) := by omega
        have HBT : Hid (bigB p = true) := Lib.hid (big_at HF.out (Or.inl (by rw [← HNN.out.1]; exact g1)))
        go_wp2_with fail
        go_ret
        exact ⟨by rw [HBT.out]; rfl, HB0.out⟩
      · have g1i : ¬ (14 : Int) < (n1 : Int) := by omega
        by_cases g2 : 120 < n2
        · have g2i : (120 : Int) < (n2 : Int) := by omega
          have HBT : Hid (bigB p = true) := Lib.hid (big_at HF.out (Or.inr (by rw [← HNN.out.2]; exact g2)))
          go_wp2_with fail
          go_ret
          exact ⟨by rw [HBT.out]; rfl, HB0.out⟩
        · have g2i : ¬ (120 : Int) < (n2 : Int) := by omega
          have HK : Hid (∀ (j : Nat) f, j < k + 1 → p.fns[j]? = some f → ¬ (14 < f.locals.length ∨ 120 < f.code.length)) := Lib.hid fun j f' hj hf' => by
            by_cases e : j = k
            · subst e
              rw [HF.out] at hf'
              cases hf'
              rw [← HNN.out.1, ← HNN.out.2]
              omega
            · exact hall.out j f' (by omega) hf'
          clear hall
          go_wp2_with fail
          go_roundw
          case rel => exact ⟨k + 1, by omega, by go_num, HK, trivial⟩
          case measure => simp [intOf]; omega
    · obtain rfl : k = n := by omega
      have HBF : Hid (bigB p = false) := Lib.hid (big_all (by rw [← HN.out]; omega) fun j f hf => hall.out j f (by have := (List.getElem?_eq_some_iff.1 hf).1; rw [HN.out]; exact this) hf)
      have hkk : ¬ (k : Int) < (k : Int) := by omega
      clear hall HX
      go_wp2_with fail
      go_ret
      exact ⟨by rw [HBF.out]; rfl, HB0.out⟩
end Go.Proofs.YtkeglkneobngnaaDoor

namespace Go.Proofs.YtkeglkneobngnaaDoor
open Go.RowKit Cd

set_option maxRecDepth 100000 in
set_option maxHeartbeats 3200000 in
theorem held_any (p : Pg) (v : Value) (w : World) (hp : ProgAt w v p) :
    Calls Tryd.prog 7 #[v] w fun e w' => e = .returned (.bool (!bigB p)) ∧ Below w.heap.size w w' := by
  obtain ⟨vf, rfl, ao, n, cap, rfl, hn, hnc, hcm, hx⟩ := hp
  unfold maxLen at hcm
  have hb0 := (Below.refl w.heap.size w).alloc (Nat.le_refl _) (.cells #[.int .i64 p.globals, .slice ao n cap] 24)
  have HB0 := Lib.hid hb0
  have HN := Lib.hid hn
  have HX : Hid (0 < n → ∃ b o, ao = some ⟨b, o, none⟩ ∧ ∀ i f, p.fns[i]? = some f → FnAt (w.alloc (.cells #[.int .i64 p.globals, .slice ao n cap] 24)) b (o + i * 4) f) := Lib.hid fun h0 => by
    obtain ⟨b, o, h1, h2, h3⟩ := hx h0
    exact ⟨b, o, h1, fun i f hi => (h3 i f hi).below hb0⟩
  obtain ⟨gl, hgl⟩ : ∃ gl, gl = p.globals := ⟨_, rfl⟩
  rw [← hgl] at HX HB0 ⊢
  have hx1 := cell_of_row (w.alloc (.cells #[.int .i64 gl, .slice ao n cap] 24)) w.heap.size 1 _ _ _ (heap_alloc_new _ _)
  clear hb0 hx hn hgl
  go_enter Tryd.func7, Tryd.ntmps7
  by_cases h14 : 14 < n
  · have h14i : (14 : Int) < (n : Int) := by omega
    have HBT : Hid (bigB p = true) := Lib.hid (by unfold bigB; rw [← HN.out, decide_eq_true h14]; rfl)
    go_wp2_with fail
    go_ret
    exact ⟨by rw [HBT.out]; rfl, HB0.out⟩
  have h14i : ¬ (14 : Int) < (n : Int) := by omega
  go_upto_region 1 with fail
  generalize w.alloc (.cells #[.int .i64 gl, .slice ao n cap] 24) = W1 at *
  have hx1' : W1.cell? ⟨w.heap.size, 1, none⟩ = some (.slice ao n cap) := hx1
  clear hx1
  go_wp2_with fail
  go_loopw [3] (fun iv wr => ∃ k : Nat, k ≤ n ∧ iv = .int .i64 k ∧ Hid (∀ (j : Nat) f, j < k → p.fns[j]? = some f → ¬ (14 < f.locals.length ∨ 120 < f.code.length)) ∧ wr = W1) (fun iv _ => n - (intOf iv).toNat)
  case atStart => exact ⟨0, Nat.zero_le _, rfl, Lib.hid (fun _ _ h => absurd h (Nat.not_lt_zero _)), rfl⟩
  case round =>
    obtain ⟨k, hk, rfl, hall, hwr⟩ := hrel
    subst hwr
    by_cases hkn : k < n
    · obtain ⟨b, o, rfl, hfn⟩ := HX.out (by omega)
      obtain ⟨f, hf⟩ : ∃ f, p.fns[k]? = some f := ⟨_, List.getElem?_eq_getElem (by rw [← HN.out]; exact hkn)⟩
      obtain ⟨hc1, ⟨vl, hc2, a1, n1, c1, rfl, hn1, hnc1, hcm1, -⟩, hc3, vc, hc4, a2, n2, c2, rfl, hn2, hnc2, hcm2, -⟩ := hfn k f hf
      have HF := Lib.hid hf
      have HNN : Hid (n1 = f.locals.length ∧ n2 = f.code.length) := Lib.hid ⟨hn1, hn2⟩
      have hi1 : (0 : Int) ≤ (k : Int) ∧ (k : Int) < (n : Int) := by omega
      unfold maxLen at hcm1 hcm2
      clear hfn hf hn1 hn2 hc1 hc3 HX
      by_cases g1 : 14 < n1
      · have g1i : (14 : Int) < (n1 : Int) := by omega
        have HBT : Hid (bigB p = true) := Lib.hid (big_at HF.out (Or.inl (by rw [← HNN.out.1]; exact g1)))
        go_wp2_with fail
        go_ret
        exact ⟨by rw [HBT.out]; rfl, HB0.out⟩
      · have g1i : ¬ (14 : Int) < (n1 : Int) := by omega
        by_cases g2 : 120 < n2
        · have g2i : (120 : Int) < (n2 : Int) := by omega
          have HBT : Hid (bigB p = true) := Lib.hid (big_at HF.out (Or.inr (by rw [← HNN.out.2]; exact g2)))
          go_wp2_with fail
          go_ret
          exact ⟨by rw [HBT.out]; rfl, HB0.out⟩
        · have g2i : ¬ (120 : Int) < (n2 : Int) := by omega
          have HK : Hid (∀ (j : Nat) f, j < k + 1 → p.fns[j]? = some f → ¬ (14 < f.locals.length ∨ 120 < f.code.length)) := Lib.hid fun j f' hj hf' => by
            by_cases e : j = k
            · subst e
              rw [HF.out] at hf'
              cases hf'
              rw [← HNN.out.1, ← HNN.out.2]
              omega
            · exact hall.out j f' (by omega) hf'
          clear hall
          go_wp2_with fail
          go_roundw
          case rel => exact ⟨k + 1, by omega, by go_num, HK, trivial⟩
          case measure => simp [intOf]; omega
    · obtain rfl : k = n := by omega
      have HBF : Hid (bigB p = false) := Lib.hid (big_all (by rw [← HN.out]; omega) fun j f hf => hall.out j f (by have := (List.getElem?_eq_some_iff.1 hf).1; rw [HN.out]; exact this) hf)
      have hkk : ¬ (k : Int) < (k : Int) := by omega
      clear hall HX
      go_wp2_with fail
      go_ret
      exact ⟨by rw [HBF.out]; rfl, HB0.out⟩
end Go.Proofs.YtkeglkneobngnaaDoor

namespace Go.Proofs.YtkeglkneobngnaaDoor
open Go.RowKit Go.Extern.Stop Go.Stop Go.Extern
namespace As

theorem valueOfP (t : Addr) (w : World) : (ReflectliteValue.unpack (.iface 119 (.pointer (some t)))).run Tryd.prog w
    = .ok (.agg #[.pointer (some ⟨13, 119, none⟩), .pointer (some ⟨w.heap.size, 0, none⟩), .int .u64 150]) (w.alloc (.cells #[.pointer (some t)] 119)) := by kernel_rfl
theorem typeP (a : Addr) (w : World) : (ReflectliteValue.methodAny (ReflectliteValue.valueError "reflectlite.Value.Type" 0) (fun t _ _ _ => ReflectliteType.toType t) #[.agg #[.pointer (some ⟨13, 119, none⟩), .pointer (some a), .int .u64 150]]).run Tryd.prog w
    = .ok (.iface 165 (.agg #[.pointer (some ⟨13, 119, none⟩)])) w := by kernel_rfl
theorem methodKind (h : Value) (w : World) : (Go.method 336 165 (.agg #[h]) "Kind").run Tryd.prog w = .ok (162, h) w := by kernel_rfl
theorem kindP (w : World) : ((ReflectliteType.abiMethod fun t => (fun a : Nat => Value.int IntKind.u8 (a : Int)) <$> Rtype.kind t) #[.pointer (some ⟨13, 119, none⟩)]).run Tryd.prog w = .ok (.int .u8 22) w := by kernel_rfl
theorem kindE (w : World) : ((ReflectliteType.abiMethod fun t => (fun a : Nat => Value.int IntKind.u8 (a : Int)) <$> Rtype.kind t) #[.pointer (some ⟨13, 26, none⟩)]).run Tryd.prog w = .ok (.int .u8 2) w := by kernel_rfl
theorem partsP (a : Addr) (w : World) : (ReflectliteValue.parts (.agg #[.pointer (some ⟨13, 119, none⟩), .pointer (some a), .int .u64 150])).run Tryd.prog w = .ok (some (119, a, 150)) w := by kernel_rfl
theorem isNilP (a p : Addr) (W : World) (ha : W.cell? a = some (.pointer (some p))) :
    (ReflectliteValue.method (ReflectliteValue.valueError "reflectlite.Value.IsNil" 0) ReflectliteValue.isNil #[.agg #[.pointer (some ⟨13, 119, none⟩), .pointer (some a), .int .u64 150]]).run Tryd.prog W = .ok (.bool false) W := by
  refine Eq.trans (b := (ReflectliteValue.isNil 119 a 150 22).run Tryd.prog W) (by kernel_rfl) ?_
  simp [ReflectliteValue.isNil, loadVar, isAgg, underlying, Tryd.underlying119, ha, Result.andThen]
theorem methodElem (h : Value) (w : World) : (Go.method 336 165 (.agg #[h]) "Elem").run Tryd.prog w = .ok (175, .agg #[h]) w := by kernel_rfl
theorem methodAssignableTo (h : Value) (w : World) : (Go.method 336 165 (.agg #[h]) "AssignableTo").run Tryd.prog w = .ok (173, .agg #[h]) w := by kernel_rfl
theorem methodImplements (h : Value) (w : World) : (Go.method 336 165 (.agg #[h]) "Implements").run Tryd.prog w = .ok (176, .agg #[h]) w := by kernel_rfl
theorem elemT (w : World) : (ReflectliteType.method ReflectliteType.elem #[.agg #[.pointer (some ⟨13, 119, none⟩)]]).run Tryd.prog w = .ok (.iface 165 (.agg #[.pointer (some ⟨13, 26, none⟩)])) w := by kernel_rfl
theorem implementsE (w : World) : (ReflectliteType.relation "Implements" ReflectliteType.implements_ #[.agg #[.pointer (some ⟨13, 26, none⟩)], .iface 165 (.agg #[.pointer (some ⟨13, 30, none⟩)])]).run Tryd.prog w = .ok (.bool true) w := by kernel_rfl
theorem typeOfE (v : Value) (w : World) : (ReflectliteType.typeOf #[.iface 26 v]).run Tryd.prog w = .ok (.iface 165 (.agg #[.pointer (some ⟨13, 26, none⟩)])) w := by kernel_rfl
theorem assignableE (w : World) : (ReflectliteType.relation "AssignableTo" ReflectliteType.assignableTo #[.agg #[.pointer (some ⟨13, 26, none⟩)], .iface 165 (.agg #[.pointer (some ⟨13, 26, none⟩)])]).run Tryd.prog w = .ok (.bool true) w := by kernel_rfl
theorem valueOfE (k : Int) (w : World) : (ReflectliteValue.unpack (.iface 26 (.int .i64 k))).run Tryd.prog w
    = .ok (.agg #[.pointer (some ⟨13, 26, none⟩), .pointer (some ⟨w.heap.size, 0, none⟩), .int .u64 130]) (w.alloc (.cells #[.int .i64 k] 26)) := by kernel_rfl
theorem elemOfP (w : World) : (Rtype.elem? 119).run Tryd.prog w = .ok (some 26) w := by kernel_rfl
theorem mkE (p : Addr) (w : World) : (ReflectliteValue.mk 26 p ReflectliteValue.flagAddr).run Tryd.prog w = .ok (.agg #[.pointer (some ⟨13, 26, none⟩), .pointer (some p), .int .u64 386]) w := by kernel_rfl
theorem elemV (a p : Addr) (W : World) (ha : W.cell? a = some (.pointer (some p))) :
    (ReflectliteValue.method (ReflectliteValue.valueError "reflectlite.Value.Elem" 0) ReflectliteValue.elem #[.agg #[.pointer (some ⟨13, 119, none⟩), .pointer (some a), .int .u64 150]]).run Tryd.prog W
      = .ok (.agg #[.pointer (some ⟨13, 26, none⟩), .pointer (some p), .int .u64 386]) W := by
  refine Eq.trans (b := (ReflectliteValue.elem 119 a 150 22).run Tryd.prog W) (by kernel_rfl) ?_
  simp [ReflectliteValue.elem, loadVar, isAgg, underlying, Tryd.underlying119, ha, Result.andThen, elemOfP, mkE]
theorem partsEa (a : Addr) (w : World) : (ReflectliteValue.parts (.agg #[.pointer (some ⟨13, 26, none⟩), .pointer (some a), .int .u64 386])).run Tryd.prog w = .ok (some (26, a, 386)) w := by kernel_rfl
theorem partsE (a : Addr) (w : World) : (ReflectliteValue.parts (.agg #[.pointer (some ⟨13, 26, none⟩), .pointer (some a), .int .u64 130])).run Tryd.prog w = .ok (some (26, a, 130)) w := by kernel_rfl
theorem directE (w : World) : (Rtype.directlyAssignable 26 26).run Tryd.prog w = .ok true w := by kernel_rfl
theorem setE (ta b : Addr) (k : Int) (old : Value) (W : World) (hb : W.cell? b = some (.int .i64 k)) (ht : W.cell? ta = some old) (hf : W.frozen? ta = false) :
    (ReflectliteValue.set #[.agg #[.pointer (some ⟨13, 26, none⟩), .pointer (some ta), .int .u64 386], .agg #[.pointer (some ⟨13, 26, none⟩), .pointer (some b), .int .u64 130]]).run Tryd.prog W
      = .ok (.tuple #[]) (W.setCell ta (.int .i64 k)) := by
  have hset := fun v x : Value => id (α := ReflectliteValue.set #[v, x] = (ReflectliteValue.parts v >>= fun p => ReflectliteValue.parts x >>= _)) rfl
  rw [hset]
  simp only [Sem.run_bind, partsEa, partsE, Result.andThen]
  simp [ReflectliteValue.flagAddr, loadVar, isAgg, underlying, Tryd.underlying26, hb, Result.andThen, directE, storeVar, Value.cells, storeCells, Addr.add]
  rw [run_store Tryd.prog W ta _ _ (by rfl)]
  simp [ht, hf]
end As
end Go.Proofs.YtkeglkneobngnaaDoor

namespace Go.Proofs.YtkeglkneobngnaaDoor
open Go.RowKit Go.Extern.Stop Go.Stop Go.Extern

/-- The variable errors.errorType, as it is laid. -/
def ErrT (w : World) : Prop := w.cell? ⟨4, 0, none⟩ = some (.iface 165 (.agg #[.pointer (some ⟨13, 30, none⟩)]))

set_option maxRecDepth 100000 in
set_option maxHeartbeats 4000000 in
theorem asErrno_any (k : Int) (t : Addr) (old : Value) (w : World) (hg : ErrT w) (ht0 : w.cell? t = some old) (hf0 : w.frozen? t = false) :
    Calls Tryd.prog 82 #[.iface 26 (.int .i64 k), .iface 119 (.pointer (some t))] w fun ev w' => ev = .returned (.bool true) ∧ w'.cell? t = some (.int .i64 k) ∧ Below t.block w w' := by
  unfold ErrT at hg
  have h6 := @run_callFunc_extern Tryd.prog 96 _ (fun args => ReflectliteValue.unpack (args.getD 0 (.tuple #[]))) Tryd.func96 (by kernel_rfl) (by kernel_rfl) (by kernel_rfl) (by kernel_rfl)
  have h7 := @run_callFunc_extern Tryd.prog 97 _ (ReflectliteValue.methodAny (ReflectliteValue.valueError "reflectlite.Value.Type" 0) (fun t _ _ _ => ReflectliteType.toType t)) Tryd.func97 (by kernel_rfl) (by kernel_rfl) (by kernel_rfl) (by kernel_rfl)
  have h8 := @run_callFunc_extern Tryd.prog 98 _ (ReflectliteValue.method (ReflectliteValue.valueError "reflectlite.Value.IsNil" 0) ReflectliteValue.isNil) Tryd.func98 (by kernel_rfl) (by kernel_rfl) (by kernel_rfl) (by kernel_rfl)
  have h27 := @run_callFunc_extern Tryd.prog 162 _ (ReflectliteType.abiMethod fun t => do pure (.int .u8 (← Rtype.kind t))) Tryd.func162 (by kernel_rfl) (by kernel_rfl) (by kernel_rfl) (by kernel_rfl)
  have h37 := @run_callFunc_extern Tryd.prog 175 _ (ReflectliteType.method ReflectliteType.elem) Tryd.func175 (by kernel_rfl) (by kernel_rfl) (by kernel_rfl) (by kernel_rfl)
  have h38 := @run_callFunc_extern Tryd.prog 176 _ (ReflectliteType.relation "Implements" ReflectliteType.implements_) Tryd.func176 (by kernel_rfl) (by kernel_rfl) (by kernel_rfl) (by kernel_rfl)
  have h10 := @run_callFunc_extern Tryd.prog 118 _ ReflectliteType.typeOf Tryd.func118 (by kernel_rfl) (by kernel_rfl) (by kernel_rfl) (by kernel_rfl)
  have h35 := @run_callFunc_extern Tryd.prog 173 _ (ReflectliteType.relation "AssignableTo" ReflectliteType.assignableTo) Tryd.func173 (by kernel_rfl) (by kernel_rfl) (by kernel_rfl) (by kernel_rfl)
  have h11 := @run_callFunc_extern Tryd.prog 119 _ (ReflectliteValue.method (ReflectliteValue.valueError "reflectlite.Value.Elem" 0) ReflectliteValue.elem) Tryd.func119 (by kernel_rfl) (by kernel_rfl) (by kernel_rfl) (by kernel_rfl)
  have h12 := @run_callFunc_extern Tryd.prog 120 _ ReflectliteValue.set Tryd.func120 (by kernel_rfl) (by kernel_rfl) (by kernel_rfl) (by kernel_rfl)
  have tO := As.typeOfE
  have mA := As.methodAssignableTo
  have aE := As.assignableE
  have vE := As.valueOfE
  have f6 := As.valueOfP
  have f7 := As.typeP
  have mK := As.methodKind
  have mE := As.methodElem
  have mI := As.methodImplements
  have kP := As.kindP
  have kE := As.kindE
  have eT := As.elemT
  have iE := As.implementsE
  have n8 := As.isNilP ⟨w.heap.size, 0, none⟩ t ((w.alloc (.cells #[.pointer (some t)] 119)).alloc (.cells #[.pointer (some ⟨13, 119, none⟩), .pointer (some ⟨w.heap.size, 0, none⟩), .int .u64 150] 143)) (by simp)
  have hlt : 4 < w.heap.size := block_lt_of_cell hg
  have hg2 : ((w.alloc (.cells #[.pointer (some t)] 119)).alloc (.cells #[.pointer (some ⟨13, 119, none⟩), .pointer (some ⟨w.heap.size, 0, none⟩), .int .u64 150] 143)).cell? ⟨4, 0, none⟩ = some (.iface 165 (.agg #[.pointer (some ⟨13, 30, none⟩)])) := by
    rw [World.cell?_alloc_lt _ _ ⟨4, 0, none⟩ (by first | (simp; done) | (simp; omega)), World.cell?_alloc_lt _ _ ⟨4, 0, none⟩ hlt]; exact hg
  have htl : t.block < w.heap.size := block_lt_of_cell ht0
  have el := As.elemV ⟨w.heap.size, 0, none⟩ t (((w.alloc (.cells #[.pointer (some t)] 119)).alloc (.cells #[.pointer (some ⟨13, 119, none⟩), .pointer (some ⟨w.heap.size, 0, none⟩), .int .u64 150] 143)).alloc (.cells #[.pointer (some ⟨13, 119, none⟩), .pointer (some ⟨w.heap.size, 0, none⟩), .int .u64 150] 143)) (by rw [World.cell?_alloc_lt _ _ ⟨w.heap.size, 0, none⟩ (by simp; omega)]; simp)
  have hct : ((((w.alloc (.cells #[.pointer (some t)] 119)).alloc (.cells #[.pointer (some ⟨13, 119, none⟩), .pointer (some ⟨w.heap.size, 0, none⟩), .int .u64 150] 143)).alloc (.cells #[.pointer (some ⟨13, 119, none⟩), .pointer (some ⟨w.heap.size, 0, none⟩), .int .u64 150] 143)).alloc (.cells #[.int .i64 k] 26)).cell? t = some old := by
    rw [World.cell?_alloc_lt _ _ t (by simp; omega), World.cell?_alloc_lt _ _ t (by simp; omega), World.cell?_alloc_lt _ _ t (by simp; omega), World.cell?_alloc_lt _ _ t htl]; exact ht0
  have st := As.setE t ⟨w.heap.size + 1 + 1 + 1, 0, none⟩ k old ((((w.alloc (.cells #[.pointer (some t)] 119)).alloc (.cells #[.pointer (some ⟨13, 119, none⟩), .pointer (some ⟨w.heap.size, 0, none⟩), .int .u64 150] 143)).alloc (.cells #[.pointer (some ⟨13, 119, none⟩), .pointer (some ⟨w.heap.size, 0, none⟩), .int .u64 150] 143)).alloc (.cells #[.int .i64 k] 26))
    (by rw [World.cell?_alloc_at _ _ _ _ (by simp)]; rfl) hct
    (by rw [World.frozen?_alloc_old _ _ t (by simp; omega), World.frozen?_alloc_old _ _ t (by simp; omega), World.frozen?_alloc_old _ _ t (by simp; omega), World.frozen?_alloc_old _ _ t (Nat.ne_of_lt htl)]; exact hf0)
  have HCT := Lib.hid hct
  clear hct
  go_enter Tryd.func82, Tryd.ntmps82
  go_wp2
  refine wp_loop_rounds 1 ?_
  rw [rounds_succ]
  go_wp2
  go_ret
  refine ⟨rfl, ?_, ?_⟩
  · exact World.cell?_setCell_same _ _ _ HCT.out
  · exact (((((Below.refl _ _).alloc (by omega) _).alloc (by simp; omega) _).alloc (by simp; omega) _).alloc (by simp; omega) _).setCell (Nat.le_refl _) _
end Go.Proofs.YtkeglkneobngnaaDoor

namespace Go.Proofs.YtkeglkneobngnaaDoor
open Go.RowKit

set_option maxRecDepth 100000 in
set_option maxHeartbeats 800000 in
theorem tell_nil (w : World) : Calls Tryd.prog 59 #[.nilIface] w fun e w' => e = .returned (.int .i64 0) ∧ w = w' := by
  go_enter Tryd.func59, Tryd.ntmps59
  go_wp2
  go_ret
  exact ⟨rfl, rfl⟩

theorem ErrT.alloc {w : World} (h : ErrT w) (o : Obj) : ErrT (w.alloc o) := by
  have hlt : 4 < w.heap.size := block_lt_of_cell h
  unfold ErrT
  rw [World.cell?_alloc_lt _ _ ⟨4, 0, none⟩ hlt]; exact h
theorem ErrT.below {w w' : World} {B : Nat} (h : ErrT w) (hb : Below B w w') (hB : 4 < B) : ErrT w' := by
  unfold ErrT
  rw [hb.cell (p := ⟨4, 0, none⟩) hB]; exact h

set_option maxRecDepth 100000 in
set_option maxHeartbeats 800000 in
theorem tell_errno (k : Int) (w : World) (hE : ErrT w) : Calls Tryd.prog 59 #[.iface 26 (.int .i64 k)] w fun e w' => e = .returned (.int .i64 k) ∧ Below w.heap.size w w' := by
  have HE := Lib.hid (hE.alloc (.cells #[.int .i64 0] 26))
  have hlt : 4 < w.heap.size := block_lt_of_cell hE
  clear hE
  go_enter Tryd.func59, Tryd.ntmps59
  go_wp2_with fail
  refine (asErrno_any k ⟨w.heap.size, 0, none⟩ (.int .i64 0) _ HE.out (by simp) (by simp)).mono ?_
  rintro e w1 ⟨rfl, hc, hb⟩
  go_wp2_with fail
  go_ret
  exact ⟨rfl, ((Below.refl _ _).alloc (Nat.le_refl _) _).trans hb⟩

set_option maxRecDepth 100000 in
set_option maxHeartbeats 800000 in
theorem place_nil (w : World) : Calls Tryd.prog 28 #[.nilIface] w fun e w' => e = .returned (.tuple #[.int .i64 0, .int .i64 (-1)]) ∧ w = w' := by
  go_enter Tryd.func28, Tryd.ntmps28
  go_wp2_with (go_at_call 59; refine (tell_nil _).mono ?_; rintro e w' ⟨rfl, rfl⟩)
  refine wp_loop_rounds 1 ?_
  rw [rounds_succ]
  go_wp2_with fail
  go_ret2
  exact ⟨rfl, rfl⟩

theorem errno_isAt (k : Int) (w : World) : (Instr.typeAssert (.iface 26 (.int .i64 k)) 30 92 true).run Tryd.prog w = .ok (.tuple #[.pointer none, .bool false]) w := by kernel_rfl
theorem errno_isUnwrap (v : Value) (xT : TypeId) (w : World) : (Instr.typeAssert (.iface 26 v) xT 96 true).run Tryd.prog w = .ok (.tuple #[.nilIface, .bool false]) w :=
  Go.run_typeAssert_lacksB Tryd.underlying96 (by kernel_rfl) (by kernel_rfl) v xT w

set_option maxRecDepth 100000 in
set_option maxHeartbeats 800000 in
theorem place_errno (k : Int) (w : World) (hE : ErrT w) : Calls Tryd.prog 28 #[.iface 26 (.int .i64 k)] w fun e w' => e = .returned (.tuple #[.int .i64 k, .int .i64 (-1)]) ∧ Below w.heap.size w w' := by
  have HE := Lib.hid hE
  clear hE
  have t1 := errno_isAt k
  have t2 := errno_isUnwrap (.int .i64 k) 30
  go_enter Tryd.func28, Tryd.ntmps28
  go_wp2_with (go_at_call 59; refine (tell_errno k _ HE.out).mono ?_; rintro e w1 ⟨rfl, hb⟩)
  refine wp_loop_rounds 1 ?_
  rw [rounds_succ]
  go_wp2_with fail
  go_ret2
  exact ⟨rfl, hb⟩

end Go.Proofs.YtkeglkneobngnaaDoor

namespace Go.Proofs.YtkeglkneobngnaaDoor
open Go.RowKit

set_option maxRecDepth 100000 in
set_option maxHeartbeats 800000 in
/-- An error that is nil, held against OK. -/
theorem bare_nil (w : World) : Calls Tryd.prog 10 #[.nilIface, .int .i64 0] w fun e w' => e = .returned (.bool true) ∧ w = w' := by
  go_enter Tryd.func10, Tryd.ntmps10
  go_wp2_with (go_at_call 28; refine (place_nil _).mono ?_; rintro e w' ⟨rfl, rfl⟩)
  go_ret
  exact ⟨rfl, rfl⟩
set_option maxRecDepth 100000 in
set_option maxHeartbeats 800000 in
/-- An api.Errno, held against itself. -/
theorem bare_errno (k : Int) (w : World) (hE : ErrT w) : Calls Tryd.prog 10 #[.iface 26 (.int .i64 k), .int .i64 k] w fun e w' => e = .returned (.bool true) ∧ Below w.heap.size w w' := by
  have HE := Lib.hid hE
  clear hE
  go_enter Tryd.func10, Tryd.ntmps10
  go_wp2_with (go_at_call 28; refine (place_errno k _ HE.out).mono ?_; rintro e w1 ⟨rfl, hb⟩)
  go_ret
  exact ⟨rfl, hb⟩
end Go.Proofs.YtkeglkneobngnaaDoor

namespace Go.Proofs.YtkeglkneobngnaaDoor
open Go.RowKit

/-- What 'bare' says of an error and its number. -/
theorem bare_re (re : Nat) (w : World) (hE : ErrT w) : Calls Tryd.prog 10 #[errV re, .int .i64 re] w fun e w' => e = .returned (.bool true) ∧ Below w.heap.size w w' := by
  unfold errV
  by_cases h : re = 0
  · subst h
    exact (bare_nil w).mono fun _ _ ⟨he, hw⟩ => ⟨he, hw ▸ Below.refl _ _⟩
  · rw [if_neg h]
    exact bare_errno re w hE
end Go.Proofs.YtkeglkneobngnaaDoor

namespace Go.Proofs.YtkeglkneobngnaaDoor
open Go.RowKit Cd As

theorem agg2_sndW {a b c d : Value} (h : Value.agg #[a, b] = .agg #[c, d]) : b = d := by
  injection h with h
  injection h with h
  injection h with _ h
  injection h

set_option maxRecDepth 100000 in
set_option maxHeartbeats 6400000 in
theorem asmWrites_any (p : Pg) (g : Int) (vf : Value) (w : World) (hp : ProgAt w (.agg #[.int .i64 g, vf]) p ∧ RangeP p) (hL : AsmVars w ∧ Pow w) (hT : ErrT w) (hM : MaxLB w) :
    Calls Tryd.prog 4 #[.agg #[.int .i64 g, vf]] w fun e w' => e = .returned (.bool true) ∧ Below w.heap.size w w' := by
  obtain ⟨hp, hr⟩ := hp
  obtain ⟨ao, n, cap, hvf⟩ : ∃ ao n cap, vf = .slice ao n cap := by
    obtain ⟨_, e, ao, n, cap, h, -⟩ := hp
    exact ⟨ao, n, cap, by rw [agg2_sndW e]; exact h⟩
  subst hvf
  have HP := Lib.hid hp
  have HR := Lib.hid hr
  have HV := Lib.hid hL.1
  have HPW := Lib.hid hL.2
  have HT := Lib.hid hT
  have hlt : 4 < w.heap.size := block_lt_of_cell hT
  have HLT := Lib.hid hlt
  have HM := Lib.hid hM
  have hal := (Below.refl w.heap.size w).alloc (Nat.le_refl _) (.cells #[.int .i64 g, .slice ao n cap] 24)
  have HB1 := Lib.hid hal
  have hz0 := cell_of_row (w.alloc (.cells #[.int .i64 g, .slice ao n cap] 24)) w.heap.size 0 _ _ _ (heap_alloc_new _ _)
  have hz1 := cell_of_row (w.alloc (.cells #[.int .i64 g, .slice ao n cap] 24)) w.heap.size 1 _ _ _ (heap_alloc_new _ _)
  clear hp hr hL hT hM hlt hal
  go_enter Tryd.func4, Tryd.ntmps4
  go_upto_region 1 with fail
  generalize w.alloc (.cells #[.int .i64 g, .slice ao n cap] 24) = w1 at *
  have HC : Hid (∀ V, Below w1.heap.size w1 V → V.cell? ⟨w.heap.size, 0, none⟩ = some (.int .i64 g) ∧ V.cell? ⟨w.heap.size, 1, none⟩ = some (.slice ao n cap) ∧ ProgAt V (.agg #[.int .i64 g, .slice ao n cap]) p ∧ Below w.heap.size w V) := Lib.hid fun V hV =>
    ⟨(Keeps.of_new (S := fun _ => False) hV).cell_of hz0 id, (Keeps.of_new (S := fun _ => False) hV).cell_of hz1 id, HP.out.below (HB1.out.trans (hV.mono HB1.out.size)), HB1.out.trans (hV.mono HB1.out.size)⟩
  clear hz0 hz1
  have hb1 : Below w1.heap.size w1 w1 := Below.refl _ _
  obtain ⟨c0, c1, hp1, -⟩ := HC.out _ hb1
  have HHD := Lib.hid (held_any p _ w1 hp1)
  clear hp1
  go_wp2_with fail
  refine HHD.out.mono ?_
  rintro e w2 ⟨rfl, hb2⟩
  have HB2 := Lib.hid hb2
  clear hb1 hb2 c0 c1 HHD
  cases hbg : bigB p with
  | true =>
    clear hbg
    go_wp2_with fail
    go_ret
    exact ⟨rfl, (HC.out _ HB2.out).2.2.2⟩
  | false =>
    have HLEN : Hid (progE p = 0 → (asmT p).length ≤ 1000000) := Lib.hid fun h => Nat.le_trans (small_len ((progE_iff _).1 h) fun f hf => ((big_no hbg).2 f hf).2) (by decide)
    obtain ⟨c0, c1, hp2, hbw⟩ := HC.out _ HB2.out
    have HRW := Lib.hid (rAsmWrite_any p _ w2 hp2 HR.out (HM.out.below hbw) HLEN.out)
    have HPA : Hid (∀ V, Below w1.heap.size w1 V → Calls Tryd.prog 14 #[.agg #[.int .i64 g, .slice ao n cap]] V fun e w' => e = .returned (.tuple #[.string (wrT p), errV (progE p)]) ∧ Below V.heap.size V w') := Lib.hid fun V hV =>
      write_any p _ V (HC.out _ hV).2.2.1 HLEN.out (HV.out.below (HC.out _ hV).2.2.2) (HPW.out.below (HC.out _ hV).2.2.2)
    have HBR : Hid (∀ V, Below w1.heap.size w1 V → Calls Tryd.prog 10 #[errV (progE p), .int .i64 (progE p)] V fun e w' => e = .returned (.bool true) ∧ Below V.heap.size V w') := Lib.hid fun V hV =>
      bare_re (progE p) V (HT.out.below (HC.out _ hV).2.2.2 HLT.out)
    generalize wrT p = T at *
    generalize errV (progE p) = ev at *
    generalize ((progE p : Nat) : Int) = E at *
    clear hbg hp2 hbw HLEN
    go_wp2_with fail
    refine HRW.out.mono ?_
    rintro e w3 ⟨rfl, hb3⟩
    have HB3 := Lib.hid (HB2.out.trans (hb3.mono HB2.out.size))
    clear hb3 c0 c1 HRW
    obtain ⟨c0, c1, -, -⟩ := HC.out _ HB3.out
    go_wp2_with fail
    refine (HPA.out _ HB3.out).mono ?_
    rintro e w4 ⟨rfl, hb4⟩
    have HB4 := Lib.hid (HB3.out.trans (hb4.mono HB3.out.size))
    clear hb4 c0 c1 HPA
    go_wp2_with fail
    refine (HBR.out _ HB4.out).mono ?_
    rintro e w5 ⟨rfl, hb5⟩
    have HB5 := Lib.hid (HB4.out.trans (hb5.mono HB4.out.size))
    clear hb5 HBR
    go_wp2_with fail
    go_ret
    exact ⟨rfl, (HC.out _ HB5.out).2.2.2⟩
end Go.Proofs.YtkeglkneobngnaaDoor

namespace Go.Proofs.YtkeglkneobngnaaDoor
open Go.RowKit Go.ChangeShapes Go.WideShapes Go.ChangeAt Cd

set_option maxRecDepth 100000 in
theorem insC_open {H : Type} {enc : TypeId × Value → H} {W : World} {base : Nat} {spare : Nat → Bool} {held : Bool} {fuel : Nat} {cs : List Value} {x : DataW H × List MemPlace}
    (hf : DataW.trod enc Tryd.prog W base spare held fuel 42 cs = some x) : ∃ v l, cs = [v] ∧ InsAt W v l := by
  have ce : Tryd.prog.cellsOf 52 = 2 := by kernel_rfl
  have ci : Tryd.prog.cellsOf 3 = 1 := by kernel_rfl
  rcases Go.Deep.open_slice Tryd.underlying42 hf with ⟨hcs, _⟩ | ⟨a, len, cap, m, n, D, Pl, hcs, _, hl, hm, hmm, _, hx⟩
  · exact ⟨_, [], hcs, insAt_nil W⟩
  · have hlm : len ≤ m := by rw [hmm]; split <;> omega
    have key : ∀ i, i < len → ∃ q : In, W.cell? (a.add (i * 2)) = some (.int .i64 q.1) ∧ W.cell? (a.add (i * 2 + 1)) = some (.int .i64 q.2) := by
      intro i hi
      obtain ⟨cs', h1, h2⟩ := hx i (by omega)
      rw [ce] at h1
      obtain ⟨_, hlen, hcell⟩ := World.cells?_some h1
      obtain ⟨xs, k, hk, hxy, _, hxl, hfs⟩ := DataW.trod_struct Tryd.underlying52 h2
      match xs, hxl, cs', hlen with
      | [y0, y1], _, [v0, v1], _ =>
        have g0 := hfs 0 _ rfl
        have g1 := hfs 1 _ rfl
        simp [ci] at g0 g1
        have e0 := hcell 0 (by omega)
        have e1 := hcell 1 (by omega)
        rw [Go.Deep.add_add] at e0 e1
        obtain ⟨n0, f0, _, w0⟩ := DataW.trod_int Tryd.underlying3 g0
        obtain ⟨n1, f1, _, w1⟩ := DataW.trod_int Tryd.underlying3 g1
        have f0' : v0 = .int .i64 n0 := by simpa using f0
        have f1' : v1 = .int .i64 n1 := by simpa using f1
        subst f0' f1'
        exact ⟨(n0, n1), by simpa using e0, by simpa using e1⟩
    obtain ⟨q, hq⟩ := Go.Deep.choose_lt key
    refine ⟨_, (List.range len).map q, hcs, some a, len, cap, rfl, by simp, hl, hm, fun h0 => ?_⟩
    obtain ⟨b, o, sp⟩ := a
    have h1 := (hq 0 (by omega)).1
    have hspot : sp = none := by simpa [Addr.add] using World.cell?_spot h1
    subst hspot
    refine ⟨b, o, rfl, World.block_lt_of_cell? _ _ h1, fun i x hi => ?_⟩
    rw [List.getElem?_map] at hi
    obtain ⟨j, hj, rfl⟩ := Option.map_eq_some_iff.1 hi
    have hil := (List.getElem?_eq_some_iff.1 hj).1
    rw [List.length_range] at hil
    rw [List.getElem?_range hil] at hj
    cases hj
    obtain ⟨g0, g1⟩ := hq i hil
    rw [add_plain] at g0 g1
    exact ⟨g0, by rw [Nat.add_assoc]; exact g1⟩
set_option maxRecDepth 100000 in
theorem intsC_open {H : Type} {enc : TypeId × Value → H} {W : World} {base : Nat} {spare : Nat → Bool} {held : Bool} {fuel : Nat} {cs : List Value} {x : DataW H × List MemPlace}
    (hf : DataW.trod enc Tryd.prog W base spare held fuel 41 cs = some x) : ∃ v l, cs = [v] ∧ IntsAt W v l := by
  have ci : Tryd.prog.cellsOf 3 = 1 := by kernel_rfl
  rcases open_ints Tryd.underlying41 Tryd.underlying3 ci hf with ⟨hcs, _⟩ | ⟨a, len, cap, zs, hcs, _, hl, hm, hz, _, hcell, hwz⟩
  · exact ⟨_, [], hcs, intsAt_nil W⟩
  · have hlz : len ≤ zs.length := by rw [hz]; split <;> omega
    refine ⟨_, zs.take len, hcs, some a, len, cap, rfl, by rw [List.length_take]; omega, hl, hm, fun h0 => ?_⟩
    obtain ⟨b, o, sp⟩ := a
    have h1 := hcell 0 (by omega)
    have hspot : sp = none := by simpa [Addr.add] using World.cell?_spot h1
    subst hspot
    refine ⟨b, o, rfl, World.block_lt_of_cell? _ _ (hcell 0 (by omega)), fun i hi => ?_⟩
    have := hcell i (by omega)
    rw [add_plain] at this
    rw [this]
    simp [List.getD_eq_getElem?_getD, hi]
set_option maxRecDepth 100000 in
theorem fnsC_open {H : Type} {enc : TypeId × Value → H} {W : World} {base : Nat} {spare : Nat → Bool} {held : Bool} {fuel : Nat} {cs : List Value} {x : DataW H × List MemPlace}
    (hf : DataW.trod enc Tryd.prog W base spare held fuel 22 cs = some x) : ∃ v l, cs = [v] ∧ FnsAt W v l := by
  have ce : Tryd.prog.cellsOf 44 = 4 := by kernel_rfl
  have ci : Tryd.prog.cellsOf 3 = 1 := by kernel_rfl
  have cl : Tryd.prog.cellsOf 41 = 1 := by kernel_rfl
  have cn : Tryd.prog.cellsOf 42 = 1 := by kernel_rfl
  rcases Go.Deep.open_slice Tryd.underlying22 hf with ⟨hcs, _⟩ | ⟨a, len, cap, m, n, D, Pl, hcs, _, hl, hm, hmm, _, hx⟩
  · exact ⟨_, [], hcs, fnsAt_nil W⟩
  · have hlm : len ≤ m := by rw [hmm]; split <;> omega
    have key : ∀ i, i < len → ∃ q : FnV, W.cell? (a.add (i * 4)) = some (.int .i64 q.params) ∧ (∃ vl, W.cell? (a.add (i * 4 + 1)) = some vl ∧ IntsAt W vl q.locals) ∧ W.cell? (a.add (i * 4 + 2)) = some (.int .i64 q.kind) ∧ ∃ vc, W.cell? (a.add (i * 4 + 3)) = some vc ∧ InsAt W vc q.code := by
      intro i hi
      obtain ⟨cs', h1, h2⟩ := hx i (by omega)
      rw [ce] at h1
      obtain ⟨_, hlen, hcell⟩ := World.cells?_some h1
      obtain ⟨xs, k, hk, hxy, _, hxl, hfs⟩ := DataW.trod_struct Tryd.underlying44 h2
      match xs, hxl, cs', hlen with
      | [y0, y1, y2, y3], _, [v0, v1, v2, v3], _ =>
        have g0 := hfs 0 _ rfl
        have g1 := hfs 1 _ rfl
        have g2 := hfs 2 _ rfl
        have g3 := hfs 3 _ rfl
        simp [ci, cl, cn] at g0 g1 g2 g3
        have e0 := hcell 0 (by omega)
        have e1 := hcell 1 (by omega)
        have e2 := hcell 2 (by omega)
        have e3 := hcell 3 (by omega)
        rw [Go.Deep.add_add] at e0 e1 e2 e3
        obtain ⟨n0, f0, _, w0⟩ := DataW.trod_int Tryd.underlying3 g0
        obtain ⟨vl, ls, f1, hls⟩ := intsC_open g1
        obtain ⟨n2, f2, _, w2⟩ := DataW.trod_int Tryd.underlying3 g2
        obtain ⟨vc, is, f3, his⟩ := insC_open g3
        have f0' : v0 = .int .i64 n0 := by simpa using f0
        have f1' : v1 = vl := by simpa using f1
        have f2' : v2 = .int .i64 n2 := by simpa using f2
        have f3' : v3 = vc := by simpa using f3
        subst f0' f1' f2' f3'
        exact ⟨⟨n0, ls, n2, is⟩, by simpa using e0, ⟨v1, by simpa using e1, hls⟩, by simpa using e2, v3, by simpa using e3, his⟩
    obtain ⟨q, hq⟩ := Go.Deep.choose_lt key
    refine ⟨_, (List.range len).map q, hcs, some a, len, cap, rfl, by simp, hl, hm, fun h0 => ?_⟩
    obtain ⟨b, o, sp⟩ := a
    have h1 := (hq 0 (by omega)).1
    have hspot : sp = none := by simpa [Addr.add] using World.cell?_spot h1
    subst hspot
    refine ⟨b, o, rfl, World.block_lt_of_cell? _ _ h1, fun i x hi => ?_⟩
    rw [List.getElem?_map] at hi
    obtain ⟨j, hj, rfl⟩ := Option.map_eq_some_iff.1 hi
    have hil := (List.getElem?_eq_some_iff.1 hj).1
    rw [List.length_range] at hil
    rw [List.getElem?_range hil] at hj
    cases hj
    obtain ⟨g0, ⟨vl, g1, g1'⟩, g2, vc, g3, g3'⟩ := hq i hil
    rw [add_plain] at g0 g1 g2 g3
    exact ⟨g0, ⟨vl, by rw [Nat.add_assoc]; exact g1, g1'⟩, by rw [Nat.add_assoc]; exact g2, vc, by rw [Nat.add_assoc]; exact g3, g3'⟩
set_option maxRecDepth 100000 in
theorem progAt_open {H : Type} {enc : TypeId × Value → H} {W : World} {base : Nat} {spare : Nat → Bool} {held : Bool} {v : Value} {d : DataW H} {p : List MemPlace}
    (hw : ∃ cs, v = .agg cs ∧ cs.size = Tryd.prog.cellsOf 24) (h : DataW.Trod enc Tryd.prog W base spare held 24 v d p) : ∃ (g : Int) (vf : Value) (q : Pg), v = .agg #[.int .i64 g, vf] ∧ ProgAt W (.agg #[.int .i64 g, vf]) q := by
  have cp : Tryd.prog.cellsOf 24 = 2 := by kernel_rfl
  have ci : Tryd.prog.cellsOf 3 = 1 := by kernel_rfl
  have cf : Tryd.prog.cellsOf 22 = 1 := by kernel_rfl
  obtain ⟨cs, rfl, hsz⟩ := hw
  rw [cp] at hsz
  obtain ⟨fuel, hf⟩ := h
  obtain ⟨xs, k, hk, hxy, _, hxl, hfs⟩ := DataW.trod_struct Tryd.underlying24 hf
  obtain ⟨l⟩ := cs
  match xs, hxl, l, hsz with
  | [y0, y1], _, [v0, v1], _ =>
    have g0 := hfs 0 _ rfl
    have g1 := hfs 1 _ rfl
    simp [ci, cf, Value.cells] at g0 g1
    obtain ⟨n0, f0, _, w0⟩ := DataW.trod_int Tryd.underlying3 g0
    obtain ⟨vf, fs, f1, hfs'⟩ := fnsC_open g1
    have f0' : v0 = .int .i64 n0 := by simpa using f0
    have f1' : v1 = vf := by simpa using f1
    subst f0' f1'
    exact ⟨n0, v1, ⟨n0, fs⟩, rfl, _, rfl, hfs'⟩
end Go.Proofs.YtkeglkneobngnaaDoor

namespace Go.Proofs.YtkeglkneobngnaaDoor
open Go.RowKit Go.ChangeShapes Go.WideShapes Go.ChangeAt Cd

theorem wf_i64 {n : Int} (h : (Lit.int .i64 n).wf = true) : -9223372036854775808 ≤ n ∧ n ≤ 9223372036854775807 := by
  unfold Lit.wf at h
  rw [Bool.and_eq_true] at h
  have h1 : IntKind.i64.min ≤ n := of_decide_eq_true h.1
  have h2 : n ≤ IntKind.i64.max := of_decide_eq_true h.2
  have e1 : IntKind.i64.min = -9223372036854775808 := by decide
  have e2 : IntKind.i64.max = 9223372036854775807 := by decide
  omega
set_option maxRecDepth 100000 in
theorem insC_openR {H : Type} {enc : TypeId × Value → H} {W : World} {base : Nat} {spare : Nat → Bool} {held : Bool} {fuel : Nat} {cs : List Value} {x : DataW H × List MemPlace}
    (hf : DataW.trod enc Tryd.prog W base spare held fuel 42 cs = some x) : ∃ v l, cs = [v] ∧ InsAt W v l ∧ InsR l := by
  have ce : Tryd.prog.cellsOf 52 = 2 := by kernel_rfl
  have ci : Tryd.prog.cellsOf 3 = 1 := by kernel_rfl
  rcases Go.Deep.open_slice Tryd.underlying42 hf with ⟨hcs, _⟩ | ⟨a, len, cap, m, n, D, Pl, hcs, _, hl, hm, hmm, _, hx⟩
  · exact ⟨_, [], hcs, insAt_nil W, fun x hx => (by cases hx)⟩
  · have hlm : len ≤ m := by rw [hmm]; split <;> omega
    have key : ∀ i, i < len → ∃ q : In, W.cell? (a.add (i * 2)) = some (.int .i64 q.1) ∧ W.cell? (a.add (i * 2 + 1)) = some (.int .i64 q.2) ∧ (-9223372036854775808 ≤ q.2 ∧ q.2 ≤ 9223372036854775807) := by
      intro i hi
      obtain ⟨cs', h1, h2⟩ := hx i (by omega)
      rw [ce] at h1
      obtain ⟨_, hlen, hcell⟩ := World.cells?_some h1
      obtain ⟨xs, k, hk, hxy, _, hxl, hfs⟩ := DataW.trod_struct Tryd.underlying52 h2
      match xs, hxl, cs', hlen with
      | [y0, y1], _, [v0, v1], _ =>
        have g0 := hfs 0 _ rfl
        have g1 := hfs 1 _ rfl
        simp [ci] at g0 g1
        have e0 := hcell 0 (by omega)
        have e1 := hcell 1 (by omega)
        rw [Go.Deep.add_add] at e0 e1
        obtain ⟨n0, f0, _, w0⟩ := DataW.trod_int Tryd.underlying3 g0
        obtain ⟨n1, f1, _, w1⟩ := DataW.trod_int Tryd.underlying3 g1
        have f0' : v0 = .int .i64 n0 := by simpa using f0
        have f1' : v1 = .int .i64 n1 := by simpa using f1
        subst f0' f1'
        exact ⟨(n0, n1), by simpa using e0, by simpa using e1, wf_i64 w1⟩
    obtain ⟨q, hq⟩ := Go.Deep.choose_lt key
    refine ⟨_, (List.range len).map q, hcs, ⟨some a, len, cap, rfl, by simp, hl, hm, fun h0 => ?_⟩, fun x hx => by
      obtain ⟨j, hj, rfl⟩ := List.mem_map.1 hx
      exact (hq j (List.mem_range.1 hj)).2.2⟩
    obtain ⟨b, o, sp⟩ := a
    have h1 := (hq 0 (by omega)).1
    have hspot : sp = none := by simpa [Addr.add] using World.cell?_spot h1
    subst hspot
    refine ⟨b, o, rfl, World.block_lt_of_cell? _ _ h1, fun i x hi => ?_⟩
    rw [List.getElem?_map] at hi
    obtain ⟨j, hj, rfl⟩ := Option.map_eq_some_iff.1 hi
    have hil := (List.getElem?_eq_some_iff.1 hj).1
    rw [List.length_range] at hil
    rw [List.getElem?_range hil] at hj
    cases hj
    obtain ⟨g0, g1, -⟩ := hq i hil
    rw [add_plain] at g0 g1
    exact ⟨g0, by rw [Nat.add_assoc]; exact g1⟩
set_option maxRecDepth 100000 in
theorem fnsC_openR {H : Type} {enc : TypeId × Value → H} {W : World} {base : Nat} {spare : Nat → Bool} {held : Bool} {fuel : Nat} {cs : List Value} {x : DataW H × List MemPlace}
    (hf : DataW.trod enc Tryd.prog W base spare held fuel 22 cs = some x) : ∃ v l, cs = [v] ∧ FnsAt W v l ∧ (∀ f ∈ l, InsR f.code) := by
  have ce : Tryd.prog.cellsOf 44 = 4 := by kernel_rfl
  have ci : Tryd.prog.cellsOf 3 = 1 := by kernel_rfl
  have cl : Tryd.prog.cellsOf 41 = 1 := by kernel_rfl
  have cn : Tryd.prog.cellsOf 42 = 1 := by kernel_rfl
  rcases Go.Deep.open_slice Tryd.underlying22 hf with ⟨hcs, _⟩ | ⟨a, len, cap, m, n, D, Pl, hcs, _, hl, hm, hmm, _, hx⟩
  · exact ⟨_, [], hcs, fnsAt_nil W, fun x hx => (by cases hx)⟩
  · have hlm : len ≤ m := by rw [hmm]; split <;> omega
    have key : ∀ i, i < len → ∃ q : FnV, W.cell? (a.add (i * 4)) = some (.int .i64 q.params) ∧ (∃ vl, W.cell? (a.add (i * 4 + 1)) = some vl ∧ IntsAt W vl q.locals) ∧ W.cell? (a.add (i * 4 + 2)) = some (.int .i64 q.kind) ∧ (∃ vc, W.cell? (a.add (i * 4 + 3)) = some vc ∧ InsAt W vc q.code) ∧ InsR q.code := by
      intro i hi
      obtain ⟨cs', h1, h2⟩ := hx i (by omega)
      rw [ce] at h1
      obtain ⟨_, hlen, hcell⟩ := World.cells?_some h1
      obtain ⟨xs, k, hk, hxy, _, hxl, hfs⟩ := DataW.trod_struct Tryd.underlying44 h2
      match xs, hxl, cs', hlen with
      | [y0, y1, y2, y3], _, [v0, v1, v2, v3], _ =>
        have g0 := hfs 0 _ rfl
        have g1 := hfs 1 _ rfl
        have g2 := hfs 2 _ rfl
        have g3 := hfs 3 _ rfl
        simp [ci, cl, cn] at g0 g1 g2 g3
        have e0 := hcell 0 (by omega)
        have e1 := hcell 1 (by omega)
        have e2 := hcell 2 (by omega)
        have e3 := hcell 3 (by omega)
        rw [Go.Deep.add_add] at e0 e1 e2 e3
        obtain ⟨n0, f0, _, w0⟩ := DataW.trod_int Tryd.underlying3 g0
        obtain ⟨vl, ls, f1, hls⟩ := intsC_open g1
        obtain ⟨n2, f2, _, w2⟩ := DataW.trod_int Tryd.underlying3 g2
        obtain ⟨vc, is, f3, his, hir⟩ := insC_openR g3
        have f0' : v0 = .int .i64 n0 := by simpa using f0
        have f1' : v1 = vl := by simpa using f1
        have f2' : v2 = .int .i64 n2 := by simpa using f2
        have f3' : v3 = vc := by simpa using f3
        subst f0' f1' f2' f3'
        exact ⟨⟨n0, ls, n2, is⟩, by simpa using e0, ⟨v1, by simpa using e1, hls⟩, by simpa using e2, ⟨v3, by simpa using e3, his⟩, hir⟩
    obtain ⟨q, hq⟩ := Go.Deep.choose_lt key
    refine ⟨_, (List.range len).map q, hcs, ⟨some a, len, cap, rfl, by simp, hl, hm, fun h0 => ?_⟩, fun x hx => by
      obtain ⟨j, hj, rfl⟩ := List.mem_map.1 hx
      exact (hq j (List.mem_range.1 hj)).2.2.2.2⟩
    obtain ⟨b, o, sp⟩ := a
    have h1 := (hq 0 (by omega)).1
    have hspot : sp = none := by simpa [Addr.add] using World.cell?_spot h1
    subst hspot
    refine ⟨b, o, rfl, World.block_lt_of_cell? _ _ h1, fun i x hi => ?_⟩
    rw [List.getElem?_map] at hi
    obtain ⟨j, hj, rfl⟩ := Option.map_eq_some_iff.1 hi
    have hil := (List.getElem?_eq_some_iff.1 hj).1
    rw [List.length_range] at hil
    rw [List.getElem?_range hil] at hj
    cases hj
    obtain ⟨g0, ⟨vl, g1, g1'⟩, g2, ⟨vc, g3, g3'⟩, -⟩ := hq i hil
    rw [add_plain] at g0 g1 g2 g3
    exact ⟨g0, ⟨vl, by rw [Nat.add_assoc]; exact g1, g1'⟩, by rw [Nat.add_assoc]; exact g2, vc, by rw [Nat.add_assoc]; exact g3, g3'⟩
set_option maxRecDepth 100000 in
theorem progAt_openR {H : Type} {enc : TypeId × Value → H} {W : World} {base : Nat} {spare : Nat → Bool} {held : Bool} {v : Value} {d : DataW H} {p : List MemPlace}
    (hw : ∃ cs, v = .agg cs ∧ cs.size = Tryd.prog.cellsOf 24) (h : DataW.Trod enc Tryd.prog W base spare held 24 v d p) : ∃ (g : Int) (vf : Value) (q : Pg), v = .agg #[.int .i64 g, vf] ∧ (ProgAt W (.agg #[.int .i64 g, vf]) q ∧ RangeP q) := by
  have cp : Tryd.prog.cellsOf 24 = 2 := by kernel_rfl
  have ci : Tryd.prog.cellsOf 3 = 1 := by kernel_rfl
  have cf : Tryd.prog.cellsOf 22 = 1 := by kernel_rfl
  obtain ⟨cs, rfl, hsz⟩ := hw
  rw [cp] at hsz
  obtain ⟨fuel, hf⟩ := h
  obtain ⟨xs, k, hk, hxy, _, hxl, hfs⟩ := DataW.trod_struct Tryd.underlying24 hf
  obtain ⟨l⟩ := cs
  match xs, hxl, l, hsz with
  | [y0, y1], _, [v0, v1], _ =>
    have g0 := hfs 0 _ rfl
    have g1 := hfs 1 _ rfl
    simp [ci, cf, Value.cells] at g0 g1
    obtain ⟨n0, f0, _, w0⟩ := DataW.trod_int Tryd.underlying3 g0
    obtain ⟨vf, fs, f1, hfs', hrg⟩ := fnsC_openR g1
    have f0' : v0 = .int .i64 n0 := by simpa using f0
    have f1' : v1 = vf := by simpa using f1
    subst f0' f1'
    exact ⟨n0, v1, ⟨n0, fs⟩, rfl, ⟨_, rfl, hfs'⟩, hrg⟩
end Go.Proofs.YtkeglkneobngnaaDoor

namespace Go.Proofs.YtkeglkneobngnaaDoor
open Go.RowKit Cd As

/-- kindOf's answer, from k on. -/
def kindFrom (w : B) : Nat → Nat → Option Int
  | 0, _ => none
  | n + 1, k => if kindsB.getD k [] = w then some (k : Int) else kindFrom w n (k + 1)
theorem kindFrom_all (w : B) : kindFrom w 4 0 = kindI w := by
  unfold kindI
  simp only [kindFrom, eq_comm (a := w)]
  rfl
def kindsA : Value := .agg #[.string (stB (kindsB.getD 0 [])), .string (stB (kindsB.getD 1 [])), .string (stB (kindsB.getD 2 [])), .string (stB (kindsB.getD 3 []))]

set_option maxRecDepth 100000 in
set_option maxHeartbeats 1600000 in
theorem kindOf_any (s : ByteArray) (w : World) (hv : AsmVars w) :
    Calls Tryd.prog 108 #[.string s] w fun e w' => e = .returned (.tuple #[.int .i64 ((kindI s.toList).getD 0), .bool (kindI s.toList).isSome]) ∧ w' = w := by
  have h0 : w.cell? ⟨0, 0, none⟩ = some (.string ⟨(kindsB.getD 0 []).toArray⟩) := hv.kinds 0 (by decide)
  have h1 : w.cell? ⟨0, 1, none⟩ = some (.string ⟨(kindsB.getD 1 []).toArray⟩) := hv.kinds 1 (by decide)
  have h2 : w.cell? ⟨0, 2, none⟩ = some (.string ⟨(kindsB.getD 2 []).toArray⟩) := hv.kinds 2 (by decide)
  have h3 : w.cell? ⟨0, 3, none⟩ = some (.string ⟨(kindsB.getD 3 []).toArray⟩) := hv.kinds 3 (by decide)
  have HK : Hid (kindFrom s.toList 4 0 = kindI s.toList) := Lib.hid (kindFrom_all s.toList)
  obtain ⟨R, hR⟩ : ∃ R, R = kindI s.toList := ⟨_, rfl⟩
  rw [← hR] at HK ⊢
  obtain ⟨k0, e0⟩ : ∃ x, x = kindsB.getD 0 [] := ⟨_, rfl⟩
  obtain ⟨k1, e1⟩ : ∃ x, x = kindsB.getD 1 [] := ⟨_, rfl⟩
  obtain ⟨k2, e2⟩ : ∃ x, x = kindsB.getD 2 [] := ⟨_, rfl⟩
  obtain ⟨k3, e3⟩ : ∃ x, x = kindsB.getD 3 [] := ⟨_, rfl⟩
  rw [← e0] at h0
  rw [← e1] at h1
  rw [← e2] at h2
  rw [← e3] at h3
  have HE := Lib.hid (And.intro e0 (And.intro e1 (And.intro e2 e3)))
  clear e0 e1 e2 e3 hv hR
  go_enter Tryd.func108, Tryd.ntmps108
  go_wp2_with fail
  clear h0 h1 h2 h3
  have i0 : ∀ w : World, (Instr.index 99 (.agg #[.string ⟨k0.toArray⟩, .string ⟨k1.toArray⟩, .string ⟨k2.toArray⟩, .string ⟨k3.toArray⟩]) (.int .i64 0)).run Tryd.prog w = .ok (.string ⟨k0.toArray⟩) w := fun _ => by kernel_rfl
  have i1 : ∀ w : World, (Instr.index 99 (.agg #[.string ⟨k0.toArray⟩, .string ⟨k1.toArray⟩, .string ⟨k2.toArray⟩, .string ⟨k3.toArray⟩]) (.int .i64 1)).run Tryd.prog w = .ok (.string ⟨k1.toArray⟩) w := fun _ => by kernel_rfl
  have i2 : ∀ w : World, (Instr.index 99 (.agg #[.string ⟨k0.toArray⟩, .string ⟨k1.toArray⟩, .string ⟨k2.toArray⟩, .string ⟨k3.toArray⟩]) (.int .i64 2)).run Tryd.prog w = .ok (.string ⟨k2.toArray⟩) w := fun _ => by kernel_rfl
  have i3 : ∀ w : World, (Instr.index 99 (.agg #[.string ⟨k0.toArray⟩, .string ⟨k1.toArray⟩, .string ⟨k2.toArray⟩, .string ⟨k3.toArray⟩]) (.int .i64 3)).run Tryd.prog w = .ok (.string ⟨k3.toArray⟩) w := fun _ => by kernel_rfl
  go_loop [7] (fun iv => ∃ k : Nat, k ≤ 4 ∧ iv = .int .i64 k ∧ kindFrom s.toList (4 - k) k = R) (fun iv => 4 - (intOf iv).toNat)
  case atStart => exact ⟨0, Nat.zero_le _, rfl, HK.out⟩
  case round =>
    obtain ⟨k, hk, rfl, hf⟩ := hrel
    have HF := Lib.hid hf
    clear hf HK
    rcases (show k = 4 ∨ k = 0 ∨ k = 1 ∨ k = 2 ∨ k = 3 by omega) with rfl | rfl | rfl | rfl | rfl
    · have e : R = none := HF.out.symm
      subst e
      clear HF
      go_wp2_with fail
      go_ret2
      exact ⟨rfl, rfl⟩
    · have HD : Hid (kindFrom s.toList (4 - 0) 0 = if k0 = s.toList then some 0 else kindFrom s.toList (4 - 0 - 1) (0 + 1)) := Lib.hid (by obtain ⟨e0, e1, e2, e3⟩ := HE.out; rw [e0]; rfl)
      go_wp2_with fail
      · have hh : (k0 == s.toList) = true := by assumption
        have e : R = some 0 := by rw [← HF.out, HD.out, if_pos (LawfulBEq.eq_of_beq hh)]
        subst e
        go_ret2
        exact ⟨rfl, rfl⟩
      · have hh : (k0 == s.toList) = false := by assumption
        go_round
        case rel => exact ⟨0 + 1, by omega, by go_num, by rw [← HF.out, HD.out, if_neg (fun e => by rw [e] at hh; simp at hh)]⟩
        case measure => simp [intOf]
    · have HD : Hid (kindFrom s.toList (4 - 1) 1 = if k1 = s.toList then some 1 else kindFrom s.toList (4 - 1 - 1) (1 + 1)) := Lib.hid (by obtain ⟨e0, e1, e2, e3⟩ := HE.out; rw [e1]; rfl)
      go_wp2_with fail
      · have hh : (k1 == s.toList) = true := by assumption
        have e : R = some 1 := by rw [← HF.out, HD.out, if_pos (LawfulBEq.eq_of_beq hh)]
        subst e
        go_ret2
        exact ⟨rfl, rfl⟩
      · have hh : (k1 == s.toList) = false := by assumption
        go_round
        case rel => exact ⟨1 + 1, by omega, by go_num, by rw [← HF.out, HD.out, if_neg (fun e => by rw [e] at hh; simp at hh)]⟩
        case measure => simp [intOf]
    · have HD : Hid (kindFrom s.toList (4 - 2) 2 = if k2 = s.toList then some 2 else kindFrom s.toList (4 - 2 - 1) (2 + 1)) := Lib.hid (by obtain ⟨e0, e1, e2, e3⟩ := HE.out; rw [e2]; rfl)
      go_wp2_with fail
      · have hh : (k2 == s.toList) = true := by assumption
        have e : R = some 2 := by rw [← HF.out, HD.out, if_pos (LawfulBEq.eq_of_beq hh)]
        subst e
        go_ret2
        exact ⟨rfl, rfl⟩
      · have hh : (k2 == s.toList) = false := by assumption
        go_round
        case rel => exact ⟨2 + 1, by omega, by go_num, by rw [← HF.out, HD.out, if_neg (fun e => by rw [e] at hh; simp at hh)]⟩
        case measure => simp [intOf]
    · have HD : Hid (kindFrom s.toList (4 - 3) 3 = if k3 = s.toList then some 3 else kindFrom s.toList (4 - 3 - 1) (3 + 1)) := Lib.hid (by obtain ⟨e0, e1, e2, e3⟩ := HE.out; rw [e3]; rfl)
      go_wp2_with fail
      · have hh : (k3 == s.toList) = true := by assumption
        have e : R = some 3 := by rw [← HF.out, HD.out, if_pos (LawfulBEq.eq_of_beq hh)]
        subst e
        go_ret2
        exact ⟨rfl, rfl⟩
      · have hh : (k3 == s.toList) = false := by assumption
        go_round
        case rel => exact ⟨3 + 1, by omega, by go_num, by rw [← HF.out, HD.out, if_neg (fun e => by rw [e] at hh; simp at hh)]⟩
        case measure => simp [intOf]
end Go.Proofs.YtkeglkneobngnaaDoor

namespace Go.Proofs.YtkeglkneobngnaaDoor
open Go.RowKit Cd As

theorem firstB_yes {w x : B} {r : List B} {a : Nat} (h : x = w) : firstB w (x :: r) a = a := if_pos h
theorem firstB_no {w x : B} {r : List B} {a : Nat} (h : x ≠ w) : firstB w (x :: r) a = firstB w r (a + 1) := if_neg h
theorem names_cnt : namesB.length = 27 := rfl
theorem names_drop {k : Nat} (h : k < 27) : namesB.drop k = namesB.getD k [] :: namesB.drop (k + 1) := by
  have hl : k < namesB.length := by rw [names_cnt]; exact h
  rw [List.drop_eq_getElem_cons hl, List.getD_eq_getElem?_getD, List.getElem?_eq_getElem hl]
  rfl
def namesV : Array Value := (namesB.map fun z => Value.string (stB z)).toArray
theorem namesV_get (k : Nat) (h : k < 27) : namesV[k]? = some (.string ⟨(namesB.getD k []).toArray⟩) := by
  unfold namesV
  rw [List.getElem?_toArray, List.getElem?_map, List.getD_eq_getElem?_getD, List.getElem?_eq_getElem (by rw [names_cnt]; exact h)]
  rfl
theorem namesV_size : namesV.size = 27 := rfl
theorem namesV_range (w : World) (h : NamesW w) : w.rangeAt 1 0 namesV.toList := by
  intro j v hv
  have hj : j < 27 := by
    have := (List.getElem?_eq_some_iff.1 hv).1
    rw [Array.length_toList, namesV_size] at this
    exact this
  rw [Nat.zero_add, h j hj, ← hv, Array.getElem?_toList, namesV_get j hj]
  rfl
theorem info_strN : (Tryd.prog.info? 9).map (fun i => (i.zero, i.size, i.bytes)) = some (some (.string ByteArray.empty), 1, 16) := by kernel_rfl
theorem index_name (X : Array Value) (k : Nat) (z : ByteArray) (hk : k < 27) (hg : X[k]? = some (.string z)) (w : World) :
    (Instr.index 101 (.agg X) (.int .i64 k)).run Tryd.prog w = .ok (.string z) w := by
  obtain ⟨i0, hi, hz0, hz1, hz2⟩ := tinfoA info_strN
  have hkii : (0 : Int) ≤ (k : Int) ∧ (k : Int) < 27 := by omega
  simp [Instr.index, run_underlying Tryd.underlying101, asIntOf, hkii, hk, hg, go_sem]

set_option maxRecDepth 100000 in
set_option maxHeartbeats 3200000 in
theorem opOf_any (s : ByteArray) (w : World) (hv : AsmVars w) :
    Calls Tryd.prog 110 #[.string s] w fun e w' => e = .returned (.int .i64 (opB s.toList : Nat)) ∧ w' = w := by
  have HR := Lib.hid (namesV_range w hv.names)
  have hsi : (Tryd.prog.info? 101).map (·.size) = some namesV.toList.length := by kernel_rfl
  have HSI := Lib.hid hsi
  clear hv hsi
  obtain ⟨X, hX⟩ : ∃ X, X = namesV := ⟨_, rfl⟩
  have HG : Hid (∀ k, k < 27 → X[k]? = some (.string ⟨(namesB.getD k []).toArray⟩)) := Lib.hid (by rw [hX]; exact namesV_get)
  have hsz : X.size = 27 := by rw [hX]; rfl
  rw [← hX] at HR HSI
  clear hX
  obtain ⟨R, hR⟩ : ∃ R, R = opB s.toList := ⟨_, rfl⟩
  rw [← hR]
  have HE : Hid (firstB s.toList (namesB.drop 0) 0 = R) := Lib.hid (by rw [hR]; rfl)
  clear hR
  go_enter Tryd.func110, Tryd.ntmps110
  go_wp2_with (refine wpList_load_mid rfl 101 (.global 1) rfl 1 0 rfl X.toList _ HR.out Tryd.underlying101 rfl HSI.out ?_)
  go_loop [6] (fun iv => ∃ k : Nat, k ≤ 27 ∧ iv = .int .i64 k ∧ firstB s.toList (namesB.drop k) k = R) (fun iv => 27 - (intOf iv).toNat)
  case atStart => exact ⟨0, Nat.zero_le _, rfl, HE.out⟩
  case round =>
    obtain ⟨k, hk, rfl, hf⟩ := hrel
    have HF := Lib.hid hf
    clear hf HE
    by_cases hkn : k < 27
    · have hg := HG.out k hkn
      have hki : (k : Int) < 27 := by omega
      have hkii : (0 : Int) ≤ (k : Int) ∧ (k : Int) < 27 := by omega
      have HD : Hid (firstB s.toList (namesB.getD k [] :: namesB.drop (k + 1)) k = R) := Lib.hid (by rw [← names_drop hkn]; exact HF.out)
      generalize namesB.getD k [] = nm at *
      have hix := index_name X k ⟨nm.toArray⟩ hkn hg
      clear HF hg
      go_wp2_with fail
      · have hh : (nm == s.toList) = true := by assumption
        have e : R = k := by rw [← HD.out, firstB_yes (LawfulBEq.eq_of_beq hh)]
        subst e
        go_ret
        exact ⟨rfl, rfl⟩
      · have hh : (nm == s.toList) = false := by assumption
        go_round
        case rel => exact ⟨k + 1, by omega, by go_num, by rw [← HD.out, firstB_no (fun e => by rw [e] at hh; simp at hh)]⟩
        case measure => simp [intOf]; omega
    · obtain rfl : k = 27 := by omega
      have e : R = 0 := HF.out.symm
      subst e
      clear HF
      go_wp2_with fail
      go_ret
      exact ⟨rfl, rfl⟩
end Go.Proofs.YtkeglkneobngnaaDoor

namespace Go.Proofs.YtkeglkneobngnaaDoor
namespace As
open Cd

theorem dec_hi {n b0 b1 b2 b3 : Nat} (h : 128 ≤ b0) : (Lib.decodeN n b0 b1 b2 b3).1 ≠ 32 ∧ (2 ≤ (Lib.decodeN n b0 b1 b2 b3).2 → 1 < n ∧ 128 ≤ b1) ∧ (3 ≤ (Lib.decodeN n b0 b1 b2 b3).2 → 2 < n ∧ 128 ≤ b2) ∧
    (4 ≤ (Lib.decodeN n b0 b1 b2 b3).2 → 3 < n ∧ 128 ≤ b3) ∧ (Lib.decodeN n b0 b1 b2 b3).2 ≤ 4 := by
  unfold Lib.decodeN
  repeat' split
  all_goals (simp only; omega)
theorem dec_lo {n b0 b1 b2 b3 : Nat} (h : b0 < 128) : Lib.decodeN n b0 b1 b2 b3 = (b0, 1) := by
  unfold Lib.decodeN
  rw [if_pos h]
theorem words_cons' {w : B} (h0 : w ≠ []) (h : ∀ c ∈ w, c ≠ 32) (r : B) : words (w ++ 32 :: r) = w :: words r := by
  unfold words
  rw [cutAt_append r h]
  cases w with
  | nil => exact absurd rfl h0
  | cons c l => rfl
theorem words_one' {w : B} (h0 : w ≠ []) (h : ∀ c ∈ w, c ≠ 32) : words w = [w] := by
  unfold words
  rw [cutAt_none h]
  cases w with
  | nil => exact absurd rfl h0
  | cons c l => rfl
theorem get_at (s : ByteArray) (i : Nat) (h : i < s.size) : s.data.toList[i]? = some (s.get! i) := by
  have h2 : i < s.data.toList.length := h
  rw [List.getElem?_eq_getElem h2]
  congr 1
  rw [ByteArray.get!, getElem!_pos s.data i h]
  rfl
theorem drop_at (s : ByteArray) (i : Nat) (h : i < s.size) : s.data.toList.drop i = s.get! i :: s.data.toList.drop (i + 1) := by
  have h2 : i < s.data.toList.length := h
  rw [List.drop_eq_getElem_cons h2]
  have := get_at s i h
  rw [List.getElem?_eq_getElem h2] at this
  injection this with this
  rw [this]
theorem piece_at (s : ByteArray) (a b : Nat) : (s.extract a b).data.toList = (s.data.toList.drop a).take (b - a) := by
  rw [ByteArray.data_extract, Array.toList_extract, List.extract_eq_take_drop]
/-- What stands from a on is what stands up to b, and what stands behind. -/
theorem cut_two (l : B) {a b : Nat} (h : a ≤ b) : l.drop a = (l.drop a).take (b - a) ++ l.drop b := by
  conv => lhs; rw [← List.take_append_drop (b - a) (l.drop a)]
  rw [List.drop_drop, show a + (b - a) = b by omega]
/-- No blank from a up to b. -/
def NoBlank (s : ByteArray) (a b : Nat) : Prop := ∀ i, a ≤ i → i < b → (s.get! i).toNat ≠ 32
theorem NoBlank.piece {s : ByteArray} {a b : Nat} (h : NoBlank s a b) (hb : b ≤ s.size) : ∀ c ∈ (s.data.toList.drop a).take (b - a), c ≠ 32 := fun c hc => by
  obtain ⟨i, hi⟩ := List.mem_iff_getElem?.1 hc
  rw [List.getElem?_take] at hi
  split at hi
  · rename_i h1
    rw [List.getElem?_drop, get_at s _ (by omega)] at hi
    injection hi with hi
    have := h (a + i) (by omega) (by omega)
    rintro rfl
    rw [hi] at this
    exact this rfl
  · cases hi
theorem piece_ne (s : ByteArray) {a b : Nat} (h : a < b) (hb : b ≤ s.size) : (s.data.toList.drop a).take (b - a) ≠ [] := by
  intro e
  have h2 : s.data.toList.length = s.size := rfl
  have := congrArg List.length e
  rw [List.length_take, List.length_drop, List.length_nil, h2] at this
  omega
def isBl (r : Nat) : Bool := r == 32
theorem spans_words (s : ByteArray) : ∀ (f pos : Nat) (st : Option Nat) (acc : List (Nat × Nat)), s.size ≤ pos + f → pos ≤ s.size → (∀ a, st = some a → a < pos ∧ NoBlank s a pos) →
    (Lib.closeSpans s (Lib.spansFromP isBl s f pos st acc)).map (fun x => (s.extract x.1 x.2).data.toList) = acc.map (fun x => (s.extract x.1 x.2).data.toList) ++ words (s.data.toList.drop (st.getD pos)) := by
  have hend : ∀ (f pos : Nat) (st : Option Nat) (acc : List (Nat × Nat)), ¬ pos < s.size → pos ≤ s.size → (∀ a, st = some a → a < pos ∧ NoBlank s a pos) →
      (Lib.closeSpans s (Lib.spansFromP isBl s f pos st acc)).map (fun x => (s.extract x.1 x.2).data.toList) = acc.map (fun x => (s.extract x.1 x.2).data.toList) ++ words (s.data.toList.drop (st.getD pos)) := by
    intro f pos st acc hlt hp hst
    obtain rfl : pos = s.size := by omega
    rw [Lib.spansFromP_end _ _ _ _ _ _ hlt]
    cases st with
    | none =>
      have : s.data.toList.drop s.size = [] := List.drop_eq_nil_of_le (Nat.le_refl _)
      show acc.map _ = _
      rw [Option.getD_none, this, words_nil, List.append_nil]
    | some a =>
      obtain ⟨h1, h2⟩ := hst a rfl
      have e : s.data.toList.drop a = (s.data.toList.drop a).take (s.size - a) := by
        rw [List.take_of_length_le]
        rw [List.length_drop]
        exact Nat.le_refl _
      show (acc ++ [(a, s.size)]).map _ = _
      rw [List.map_append, Option.getD_some, e, words_one' (piece_ne s h1 (Nat.le_refl _)) (h2.piece (Nat.le_refl _))]
      simp only [List.map_cons, List.map_nil, piece_at]
  intro f
  induction f with
  | zero =>
    intro pos st acc hf hp hst
    exact hend 0 pos st acc (by omega) hp hst
  | succ f ih =>
    intro pos st acc hf hp hst
    by_cases hlt : pos < s.size
    · unfold Lib.spansFromP
      rw [if_pos hlt]
      rw [Lib.decode_at]
      by_cases hb : (s.get! pos).toNat < 128
      · rw [dec_lo hb]
        dsimp only
        by_cases h32 : (s.get! pos).toNat = 32
        · rw [if_pos (by unfold isBl; rw [h32]; rfl)]
          have h32' : s.get! pos = 32 := UInt8.toNat_inj.1 h32
          have hd := drop_at s pos hlt
          rw [h32'] at hd
          cases st with
          | none =>
            dsimp only
            rw [ih (pos + 1) none acc (by omega) (by omega) (fun a h => by cases h), Option.getD_none, Option.getD_none, hd, words_blank]
          | some a =>
            obtain ⟨h1, h2⟩ := hst a rfl
            dsimp only
            rw [ih (pos + 1) none _ (by omega) (by omega) (fun a h => by cases h), Option.getD_none, Option.getD_some, cut_two s.data.toList (Nat.le_of_lt h1), hd,
              words_cons' (piece_ne s h1 hp) (h2.piece hp), List.map_append, List.append_assoc]
            simp only [List.map_cons, List.map_nil, piece_at, List.singleton_append]
        · rw [if_neg (by unfold isBl; simpa using h32)]
          have key : ∀ a, a ≤ pos → NoBlank s a pos → NoBlank s a (pos + 1) := fun a _ h i h1 h2 => by
            by_cases e : i = pos
            · rw [e]; exact h32
            · exact h i h1 (by omega)
          cases st with
          | none =>
            dsimp only
            rw [ih (pos + 1) (some pos) acc (by omega) (by omega) (fun a h => by cases h; exact ⟨by omega, key pos (Nat.le_refl _) (fun i h1 h2 => by omega)⟩)]
            rfl
          | some a =>
            obtain ⟨h1, h2⟩ := hst a rfl
            dsimp only
            rw [ih (pos + 1) (some a) acc (by omega) (by omega) (fun b h => by cases h; exact ⟨by omega, key a (by omega) h2⟩)]
            rfl
      · obtain ⟨d1, d2, d3, d4, d5⟩ := dec_hi (n := s.size - pos) (b1 := (s.get! (pos + 1)).toNat) (b2 := (s.get! (pos + 2)).toNat) (b3 := (s.get! (pos + 3)).toNat) (Nat.le_of_not_lt hb)
        have d0 := Lib.decodeN_ge1 (s.size - pos) (s.get! pos).toNat (s.get! (pos + 1)).toNat (s.get! (pos + 2)).toNat (s.get! (pos + 3)).toNat
        generalize Lib.decodeN (s.size - pos) (s.get! pos).toNat (s.get! (pos + 1)).toNat (s.get! (pos + 2)).toNat (s.get! (pos + 3)).toNat = d at *
        obtain ⟨r, K⟩ := d
        dsimp only at d0 d1 d2 d3 d4 d5 ⊢
        rw [if_neg (by unfold isBl; simpa using d1)]
        have key : ∀ a, a ≤ pos → NoBlank s a pos → NoBlank s a (pos + K) := fun a _ h i h1 h2 => by
          by_cases e : i < pos
          · exact h i h1 e
          · rcases (show i = pos ∨ i = pos + 1 ∨ i = pos + 2 ∨ i = pos + 3 by omega) with rfl | rfl | rfl | rfl
            · omega
            · have := d2 (by omega); omega
            · have := d3 (by omega); omega
            · have := d4 (by omega); omega
        have hK : pos + K ≤ s.size := by
          rcases (show K = 1 ∨ K = 2 ∨ K = 3 ∨ K = 4 by omega) with rfl | rfl | rfl | rfl
          · omega
          · have := d2 (by omega); omega
          · have := d3 (by omega); omega
          · have := d4 (by omega); omega
        cases st with
        | none =>
          dsimp only
          rw [ih (pos + K) (some pos) acc (by omega) hK (fun a h => by cases h; exact ⟨by omega, key pos (Nat.le_refl _) (fun i h1 h2 => by omega)⟩)]
          rfl
        | some a =>
          obtain ⟨h1, h2⟩ := hst a rfl
          dsimp only
          rw [ih (pos + K) (some a) acc (by omega) hK (fun b h => by cases h; exact ⟨by omega, key a (by omega) h2⟩)]
          rfl
    · exact hend (f + 1) pos st acc hlt hp hst
/-- strings.FieldsFunc at a blank. -/
theorem fields_words (s : ByteArray) : (Lib.goFieldsP isBl s).map (fun x => x.data.toList) = words s.data.toList := by
  have := spans_words s s.size 0 none [] (by omega) (by omega) (fun a h => by cases h)
  unfold Lib.goFieldsP Lib.spansOfP
  rw [List.map_map]
  exact this
end As
end Go.Proofs.YtkeglkneobngnaaDoor

namespace Go.Proofs.YtkeglkneobngnaaDoor
namespace As
open Cd

/-- The lines that have words, with their numbers. -/
def linesW : List B → Nat → List (Nat × List B)
  | [], _ => []
  | l :: r, k => if words l = [] then linesW r (k + 1) else (k, words l) :: linesW r (k + 1)
def runW : List (Nat × List B) → St → Except Nat St
  | [], s => .ok s
  | x :: r, s => match rdLine x.2 s with
    | none => .error x.1
    | some s => runW r s
theorem lnsR_run : ∀ (ls : List B) (k : Nat) (s : St), lnsR ls k s = runW (linesW ls k) s
  | [], _, _ => rfl
  | l :: r, k, s => by
    unfold lnsR linesW
    split
    · exact lnsR_run r (k + 1) s
    · unfold runW
      dsimp only
      cases rdLine (words l) s with
      | none => rfl
      | some s2 => exact lnsR_run r (k + 1) s2
theorem runW_append : ∀ (a b : List (Nat × List B)) (s : St), runW (a ++ b) s = match runW a s with
    | .error k => .error k
    | .ok s => runW b s
  | [], b, s => rfl
  | x :: a, b, s => by
    show runW (x :: (a ++ b)) s = _
    rw [runW, runW]
    cases rdLine x.2 s with
    | none => rfl
    | some s2 => exact runW_append a b s2
theorem runW_next {xs : List (Nat × List B)} {j : Nat} {x : Nat × List B} {s s2 s3 : St} (h : runW (xs.take j) s = .ok s2) (hx : xs[j]? = some x) (hr : rdLine x.2 s2 = some s3) : runW (xs.take (j + 1)) s = .ok s3 := by
  rw [List.take_add_one, hx, runW_append, h]
  show runW [x] s2 = _
  unfold runW
  rw [hr]
  rfl
theorem runW_stop {xs : List (Nat × List B)} {j : Nat} {x : Nat × List B} {s s2 : St} (h : runW (xs.take j) s = .ok s2) (hx : xs[j]? = some x) (hr : rdLine x.2 s2 = none) : runW xs s = .error x.1 := by
  have hj := (List.getElem?_eq_some_iff.1 hx).1
  have e : xs = xs.take j ++ x :: xs.drop (j + 1) := by
    conv => lhs; rw [← List.take_append_drop j xs]
    rw [List.drop_eq_getElem_cons hj]
    rw [List.getElem?_eq_getElem hj] at hx
    injection hx with hx
    rw [hx]
  rw [e, runW_append, h]
  dsimp only
  unfold runW
  rw [hr]
theorem linesW_append : ∀ (a b : List B) (k : Nat), linesW (a ++ b) k = linesW a k ++ linesW b (k + a.length)
  | [], b, k => rfl
  | l :: a, b, k => by
    show linesW (l :: (a ++ b)) k = _
    rw [linesW, linesW]
    rw [linesW_append a b (k + 1), List.length_cons, show k + 1 + a.length = k + (a.length + 1) by omega]
    split <;> rfl
/-- So many lines over: those of them that have words. -/
theorem linesW_snoc {L : List B} {j : Nat} {l : B} (h : L[j]? = some l) : linesW (L.take (j + 1)) 0 = linesW (L.take j) 0 ++ (if words l = [] then [] else [(j, words l)]) := by
  have hj := (List.getElem?_eq_some_iff.1 h).1
  rw [List.take_add_one, h, linesW_append]
  congr 1
  have e : (List.take j L).length = j := by rw [List.length_take]; omega
  show linesW [l] _ = _
  rw [e, Nat.zero_add]
  unfold linesW
  split <;> rfl
theorem linesW_pre (L : List B) (j : Nat) : ∃ r, linesW L 0 = linesW (L.take j) 0 ++ r := by
  have h := linesW_append (L.take j) (L.drop j) 0
  rw [List.take_append_drop] at h
  exact ⟨_, h⟩
/-- The line that is to come has words: it is the next of those that have. -/
theorem linesW_at {L : List B} {j : Nat} {l : B} (h : L[j]? = some l) (hw : words l ≠ []) : (linesW L 0)[(linesW (L.take j) 0).length]? = some (j, words l) := by
  obtain ⟨r, hr⟩ := linesW_pre L (j + 1)
  rw [hr, linesW_snoc h, if_neg hw, List.append_assoc, List.getElem?_append_right (Nat.le_refl _), Nat.sub_self]
  rfl
theorem linesW_len {L : List B} : ∀ k, (linesW L k).length ≤ L.length := by
  induction L with
  | nil => intro k; exact Nat.le_refl _
  | cons l L ih =>
    intro k
    have := ih (k + 1)
    unfold linesW
    split <;> simp only [List.length_cons] <;> omega
/-! The first line feed. -/
theorem cut_none {l : B} (h : Lib.indexByte l 10 = -1) : cutAt 10 l = [l] := by
  refine cutAt_none fun c hc e => ?_
  obtain ⟨k, hk⟩ := List.mem_iff_getElem?.1 hc
  rw [e] at hk
  exact Lib.indexByte_none h k hk
theorem cut_some {l : B} {o : Nat} (h : Lib.indexByte l 10 = o) : o < l.length ∧ cutAt 10 l = l.take o :: cutAt 10 (l.drop (o + 1)) := by
  obtain ⟨h1, h2⟩ := Lib.indexByte_some h
  have ho := (List.getElem?_eq_some_iff.1 h1).1
  refine ⟨ho, ?_⟩
  have e : l = l.take o ++ 10 :: l.drop (o + 1) := by
    conv => lhs; rw [← List.take_append_drop o l]
    rw [List.drop_eq_getElem_cons ho]
    rw [List.getElem?_eq_getElem ho] at h1
    injection h1 with h1
    rw [h1]
  conv => lhs; rw [e]
  refine cutAt_append _ fun c hc e2 => ?_
  obtain ⟨k, hk⟩ := List.mem_iff_getElem?.1 hc
  rw [List.getElem?_take] at hk
  split at hk
  · rename_i hlt
    rw [e2] at hk
    exact h2 k hlt hk
  · cases hk
theorem count_cut (s : B) : (cutAt 10 s).length = s.count 10 + 1 := by
  induction s with
  | nil => rfl
  | cons c r ih =>
    unfold cutAt
    by_cases h : c = 10
    · rw [if_pos h, h, List.length_cons, ih, List.count_cons_self]
    · rw [if_neg h, List.count_cons_of_ne h]
      cases hc : cutAt 10 r with
      | nil => exact absurd hc (cutAt_ne 10 r)
      | cons p ps => rw [hc] at ih; simpa using ih
end As
end Go.Proofs.YtkeglkneobngnaaDoor

namespace Go.Proofs.YtkeglkneobngnaaDoor
open Go.RowKit Cd As

def IfaceAt (w : World) (g : Nat) : Prop := ∃ tp p, w.cell? ⟨g, 0, none⟩ = some (.iface tp p)
theorem IfaceAt.below {w w' : World} {g : Nat} (h : IfaceAt w g) (hb : Below w.heap.size w w') : IfaceAt w' g := by
  obtain ⟨tp, p, hc⟩ := h
  exact ⟨tp, p, (Keeps.of_new (S := fun _ => False) hb).cell_of hc id⟩
/-- What asm's reader reads of the package's variables. -/
structure RdEnv (w : World) : Prop where
  tabs : AsmVars w
  pow : Pow w
  errR : IfaceAt w 12
  errS : IfaceAt w 11
theorem RdEnv.below {w w' : World} (h : RdEnv w) (hb : Below w.heap.size w w') : RdEnv w' := ⟨h.tabs.below hb, h.pow.below hb, h.errR.below hb, h.errS.below hb⟩
theorem below_bytes {w w' : World} {t : TypeId} (h : w' = w ∨ ∃ s, w' = Lib.bytesWorld w t s) : Below w.heap.size w w' := by
  rcases h with rfl | ⟨t, rfl⟩
  · exact Below.refl _ _
  · exact Lib.bytesWorld_below _ _ _
/-- Atoi, at whatever text: what it tells, and whether there is an error. -/
theorem atoi_any (s : ByteArray) (hs : s.size ≤ 100000) (w : World) (hE : RdEnv w) :
    Calls Tryd.prog 107 #[.string s] w fun e w' => (∃ n v, e = .returned (.tuple #[.int .i64 n, v]) ∧ ((v = .nilIface ∧ Lib.atoiAll s.toList = .ok n) ∨ ((∃ tp p, v = .iface tp p) ∧ ∀ n, Lib.atoiAll s.toList ≠ .ok n))) ∧ Below w.heap.size w w' := by
  rw [ByteArray.toList_eq]
  cases h : Lib.atoiAll s.data.toList with
  | ok n =>
    refine (Tryd.strconv_Atoi_ok s (by omega) n h w).mono ?_
    rintro e w' ⟨rfl, hw⟩
    exact ⟨⟨n, _, rfl, Or.inl ⟨rfl, rfl⟩⟩, below_bytes hw⟩
  | range =>
    obtain ⟨tp, p, hc⟩ := hE.errR
    refine (Tryd.strconv_Atoi_range s (by omega) h _ w hc (Or.inr ⟨tp, p, rfl⟩)).mono ?_
    rintro e w' ⟨N, rfl, _, _, hb⟩
    exact ⟨⟨_, _, rfl, Or.inr ⟨⟨_, _, rfl⟩, fun n e => (by cases e)⟩⟩, hb⟩
  | _ =>
    obtain ⟨tp, p, hc⟩ := hE.errS
    refine (Any.strconv_Atoi_syntax Tryd.laysC172 s (by omega) h _ w hc (Or.inr ⟨tp, p, rfl⟩)).mono ?_
    rintro e w' ⟨N, rfl, _, _, hb⟩
    exact ⟨⟨_, _, rfl, Or.inr ⟨⟨_, _, rfl⟩, fun n e => (by cases e)⟩⟩, hb⟩

theorem itoaL_any (n : Int) (h0 : -9223372036854775808 ≤ n) (h1 : n ≤ 9223372036854775807) (w : World) (h : Pow w) : Calls Tryd.prog 36 #[.int .i64 n] w fun e w' =>
    e = .returned (.string ⟨(Lib.itoa n).toArray⟩) ∧ Below w.heap.size w w' := itoa_any n h0 h1 w h

set_option maxRecDepth 100000 in
set_option maxHeartbeats 1600000 in
theorem number_any (s : ByteArray) (hs : s.size ≤ 100000) (w : World) (hE : RdEnv w) :
    Calls Tryd.prog 88 #[.string s] w fun e w' => e = .returned (.tuple #[.int .i64 ((numB s.toList).getD 0), .bool (numB s.toList).isSome]) ∧ Below w.heap.size w w' := by
  have HA := Lib.hid (atoi_any s hs w hE)
  have HE := Lib.hid hE
  have HN : Hid (numB s.toList = match Lib.atoiAll s.toList with
    | .ok v => if Lib.itoa v = s.toList then some v else none
    | _ => none) := Lib.hid rfl
  have HB : Hid (∀ n, Lib.atoiAll s.toList = .ok n → -9223372036854775808 ≤ n ∧ n ≤ 9223372036854775807) := Lib.hid fun n h => Lib.atoiAll_bounds h
  obtain ⟨R, hR⟩ : ∃ R, R = numB s.toList := ⟨_, rfl⟩
  rw [← hR] at HN ⊢
  clear hE hR hs
  go_enter Tryd.func88, Tryd.ntmps88
  go_wp2_with fail
  refine HA.out.mono ?_
  rintro e w1 ⟨⟨n, v, rfl, hv⟩, hb1⟩
  have HB1 := Lib.hid hb1
  clear hb1
  rcases hv with ⟨rfl, hok⟩ | ⟨⟨tp, p, rfl⟩, hno⟩
  · have hn := HB.out n hok
    obtain ⟨l, hl⟩ : ∃ l, l = Lib.itoa n := ⟨_, rfl⟩
    have HL := Lib.hid hl
    have HI : Hid (Calls Tryd.prog 36 #[.int .i64 n] w1 fun e w' => e = .returned (.string ⟨l.toArray⟩) ∧ Below w1.heap.size w1 w') := Lib.hid (by rw [hl]; exact itoaL_any n hn.1 hn.2 w1 (HE.out.below HB1.out).pow)
    have HO := Lib.hid hok
    clear hl hok
    by_cases he : l = s.toList
    · have hR : R = some n := by rw [HN.out, HO.out]; show (if _ then _ else _) = _; rw [if_pos (by rw [← HL.out]; exact he)]
      subst hR
      have hh : (l == s.toList) = true := by rw [he]; simp
      clear he
      go_wp2_with fail
      refine HI.out.mono ?_
      rintro e w2 ⟨rfl, hb2⟩
      have HB2 := Lib.hid (HB1.out.trans (hb2.mono HB1.out.size))
      clear hb2
      go_wp2_with fail
      go_ret2
      exact ⟨rfl, HB2.out⟩
    · have hR : R = none := by rw [HN.out, HO.out]; show (if _ then _ else _) = _; rw [if_neg (by rw [← HL.out]; exact he)]
      subst hR
      have hh : (l == s.toList) = false := by rw [beq_eq_false_iff_ne]; exact he
      clear he
      go_wp2_with fail
      refine HI.out.mono ?_
      rintro e w2 ⟨rfl, hb2⟩
      have HB2 := Lib.hid (HB1.out.trans (hb2.mono HB1.out.size))
      clear hb2
      go_wp2_with fail
      go_ret2
      exact ⟨rfl, HB2.out⟩
  · have hR : R = none := by
      rw [HN.out]
      split
      · rename_i v h
        exact absurd h (hno v)
      · rfl
    subst hR
    clear hno
    go_wp2_with fail
    go_ret2
    exact ⟨rfl, HB1.out⟩

theorem twoB_writ (l : B) : twoB l = writV l 16 1 := by
  unfold twoB
  have key : ∀ (n a : Nat), a + n ≤ 20 → writV l n a = firstB l ((sgB.drop a).take n) a := by
    intro n
    induction n with
    | zero => intro a _; rw [List.take_zero]; rfl
    | succ n ih =>
      intro a ha
      have hl : a < sgB.length := by show a < 20; omega
      rw [List.drop_eq_getElem_cons hl, List.take_succ_cons]
      have e : sgB[a] = signL a := by
        unfold signL
        rw [List.getD_eq_getElem?_getD, show signsL = sgB from rfl, List.getElem?_eq_getElem hl]; rfl
      rw [e]
      by_cases h : l = signL a
      · rw [writV_yes h, firstB_yes h.symm]
      · rw [writV_no h, firstB_no (fun h2 => h h2.symm), ih (a + 1) (by omega)]
  exact (key 16 1 (by omega)).symm
theorem oneB_writ (l : B) : oneB l = writV l 3 17 := by
  unfold oneB
  have key : ∀ (n a : Nat), a + n = 20 → writV l n a = firstB l (sgB.drop a) a := by
    intro n
    induction n with
    | zero => intro a ha; obtain rfl : a = 20 := by omega
              rfl
    | succ n ih =>
      intro a ha
      have hl : a < sgB.length := by show a < 20; omega
      rw [List.drop_eq_getElem_cons hl]
      have e : sgB[a] = signL a := by
        unfold signL
        rw [List.getD_eq_getElem?_getD, show signsL = sgB from rfl, List.getElem?_eq_getElem hl]; rfl
      rw [e]
      by_cases h : l = signL a
      · rw [writV_yes h, firstB_yes h.symm]
      · rw [writV_no h, firstB_no (fun h2 => h h2.symm), ih (a + 1) (by omega)]
  exact (key 3 17 (by omega)).symm

set_option maxRecDepth 100000 in
set_option maxHeartbeats 1600000 in
theorem numberOf_any (op : Nat) (hop : op ≤ 26) (s : ByteArray) (hs : s.size ≤ 100000) (w : World) (hE : RdEnv w) :
    Calls Tryd.prog 111 #[.int .i64 (op : Int), .string s] w fun e w' => e = .returned (.tuple #[.int .i64 ((numOf op s.toList).getD 0), .bool (numOf op s.toList).isSome]) ∧ Below w.heap.size w w' := by
  have HT : Hid (Calls Tryd.prog 130 #[.string s] w fun e w' => e = .returned (.int .i64 (twoB s.toList : Nat)) ∧ w = w') := Lib.hid (by rw [twoB_writ]; exact two_any s w hE.tabs.signs)
  have HO : Hid (Calls Tryd.prog 131 #[.string s] w fun e w' => e = .returned (.int .i64 (oneB s.toList : Nat)) ∧ w = w') := Lib.hid (by rw [oneB_writ]; exact one_any s w hE.tabs.signs)
  have HN := Lib.hid (number_any s hs w hE)
  obtain ⟨R, hR⟩ : ∃ R, R = numOf op s.toList := ⟨_, rfl⟩
  rw [← hR]
  unfold numOf at hR
  generalize twoB s.toList = t at *
  generalize oneB s.toList = u at *
  have HR := Lib.hid hR
  clear hE hR hs
  by_cases h8 : op = 8
  · subst h8
    go_enter Tryd.func111, Tryd.ntmps111
    go_wp2_with (go_at_call 130; refine HT.out.mono ?_; rintro e w1 ⟨rfl, rfl⟩)
    have hR : R = if t = 0 then none else some (t : Int) := by rw [HR.out]; simp
    subst hR
    by_cases h0 : t = 0
    · subst h0
      go_ret2
      exact ⟨rfl, Below.refl _ _⟩
    · rw [if_neg h0]
      have h1 : ((t : Int) != 0) = true := by simp; omega
      go_ret2
      exact ⟨by simp [h1], Below.refl _ _⟩
  · have h8i : ¬ (op : Int) = 8 := by omega
    by_cases h9 : op = 9
    · subst h9
      go_enter Tryd.func111, Tryd.ntmps111
      go_wp2_with (go_at_call 131; refine HO.out.mono ?_; rintro e w1 ⟨rfl, rfl⟩)
      have hR : R = if u = 0 then none else some (u : Int) := by rw [HR.out]; simp
      subst hR
      by_cases h0 : u = 0
      · subst h0
        go_ret2
        exact ⟨rfl, Below.refl _ _⟩
      · rw [if_neg h0]
        have h1 : ((u : Int) != 0) = true := by simp; omega
        go_ret2
        exact ⟨by simp [h1], Below.refl _ _⟩
    · have h9i : ¬ (op : Int) = 9 := by omega
      have hR : R = numB s.toList := by rw [HR.out, if_neg h8, if_neg h9]
      subst hR
      clear HR
      have HN2 := HN
      go_enter Tryd.func111, Tryd.ntmps111
      go_wp2_with (go_at_call 88; refine HN2.out.mono ?_; rintro e w1 ⟨rfl, hb1⟩)
      go_ret2
      exact ⟨rfl, by assumption⟩
end Go.Proofs.YtkeglkneobngnaaDoor

namespace Go.Proofs.YtkeglkneobngnaaDoor
open Go.RowKit Cd As

theorem iface_of_trodA {H : Type} {enc : TypeId × Value → H} {P : Program} {w : World} {base : Nat} {sp : Nat → Bool} {fuel : Nat} {t : TypeId} {cs : List Value} {name : String} {d : DataW H} {p : List MemPlace}
    (ht : ∃ ms, P.underlying t = some (.interface ms)) (h : DataW.trod enc P w base sp false fuel t cs = some (.iface name d, p)) : ∃ u v, cs = [.iface u v] := by
  cases fuel with
  | zero => simp [DataW.trod] at h
  | succ fuel =>
    obtain ⟨ms, ht⟩ := ht
    match cs with
    | [] => simp [DataW.trod, ht] at h
    | a :: b :: r => simp [DataW.trod, ht] at h
    | [a] =>
      cases a <;> first | exact ⟨_, _, rfl⟩ | (simp [DataW.trod, ht] at h; done)
theorem gErrRA : Tryd.prog.globalNamed "strconv.ErrRange" = some 12 := by kernel_rfl
theorem tErrRA : (Tryd.prog.globals[12]?).map (·.type) = some 30 := by kernel_rfl
theorem gErrSA : Tryd.prog.globalNamed "strconv.ErrSyntax" = some 11 := by kernel_rfl
theorem tErrSA : (Tryd.prog.globals[11]?).map (·.type) = some 30 := by kernel_rfl
theorem ifaceAt_of {W : World} {name : String} {g : Nat} {nm : String} {d : DataW Unit} (hgn : Tryd.prog.globalNamed name = some g) (htn : (Tryd.prog.globals[g]?).map (·.type) = some 30) (r : Go.Lib.VarReads Tryd.prog W name (.iface nm d)) : IfaceAt W g := by
  obtain ⟨g2, t, cs, fuel, p, hg, hty, hvar, hd⟩ := r
  obtain rfl := Option.some.inj (hgn.symm.trans hg)
  obtain rfl := Option.some.inj (htn.symm.trans hty)
  obtain ⟨u, v, hcs⟩ := iface_of_trodA ⟨_, Tryd.underlying30⟩ hd
  refine ⟨u, v, ?_⟩
  have := World.var?_cell hgn hvar 0
  rw [this, ← Array.getElem?_toList, hcs]
  rfl
theorem asmVars_of {W : World} {l : List (String × DataW Unit)} (h : laidMet Tryd.prog l W) (m1 : ("sluiceway/asm.names", Rows.laid_sluiceway_asm_names) ∈ l) (m2 : ("sluiceway/asm.kinds", Rows.laid_sluiceway_asm_kinds) ∈ l)
    (m3 : ("sluiceway/arith.signs", Rows.laid_sluiceway_arith_signs) ∈ l)
    (hp : (l.filter fun x => x.1 == "internal/strconv.uint64pow10") = [("internal/strconv.uint64pow10", Rows.laid_internal_strconv_uint64pow10)]) : AsmVars W ∧ Pow W := by
  have hN : NamesW W := by
    obtain ⟨g, t, cs, fuel, p, hg, hty, hvar, hd⟩ := Go.Lib.laidMet.reads h m1
    obtain rfl := Option.some.inj (gNames.symm.trans hg)
    obtain rfl := Option.some.inj (tNames.symm.trans hty)
    have hcs := cells_of_tabS (zs := namesB) Tryd.underlying101 Tryd.underlying9 cells_string cells_names hd
    intro n hn
    have := World.var?_cell gNames hvar n
    rw [this, ← Array.getElem?_toList, hcs, List.getElem?_map, List.getD_eq_getElem?_getD, List.getElem?_eq_getElem (show n < namesB.length from hn)]
    rfl
  have hK : KindsW W := by
    obtain ⟨g, t, cs, fuel, p, hg, hty, hvar, hd⟩ := Go.Lib.laidMet.reads h m2
    obtain rfl := Option.some.inj (gKinds.symm.trans hg)
    obtain rfl := Option.some.inj (tKinds.symm.trans hty)
    have hcs := cells_of_tabS (zs := kindsB) Tryd.underlying99 Tryd.underlying9 cells_string cells_kinds hd
    intro n hn
    have := World.var?_cell gKinds hvar n
    rw [this, ← Array.getElem?_toList, hcs, List.getElem?_map, List.getD_eq_getElem?_getD, List.getElem?_eq_getElem (show n < kindsB.length from hn)]
    rfl
  have hS : Signs W := by
    obtain ⟨g, t, cs, fuel, p, hg, hty, hvar, hd⟩ := Go.Lib.laidMet.reads h m3
    obtain rfl := Option.some.inj (gSigns.symm.trans hg)
    obtain rfl := Option.some.inj (tSigns.symm.trans hty)
    have hcs := cells_of_tabS (zs := signsL) Tryd.underlying125 Tryd.underlying9 cells_string cells_signs hd
    intro n hn
    have := World.var?_cell gSigns hvar n
    rw [this, ← Array.getElem?_toList, hcs, List.getElem?_map]
    unfold signL
    rw [List.getD_eq_getElem?_getD, List.getElem?_eq_getElem (show n < signsL.length from hn)]
    rfl
  have hP : Pow W := by
    have h1 := h.filter fun x => x.1 == "internal/strconv.uint64pow10"
    rw [hp] at h1
    exact Lib.tabIs_of_head (rest := []) gPow tPow Tryd.underlying177 Tryd.underlying46 cells_u64 cells_pow h1
  exact ⟨⟨hN, hK, hS⟩, hP⟩
theorem rdEnv_of {W : World} {l : List (String × DataW Unit)} (h : laidMet Tryd.prog l W) (m1 : ("sluiceway/asm.names", Rows.laid_sluiceway_asm_names) ∈ l) (m2 : ("sluiceway/asm.kinds", Rows.laid_sluiceway_asm_kinds) ∈ l)
    (m3 : ("sluiceway/arith.signs", Rows.laid_sluiceway_arith_signs) ∈ l) (m4 : ("strconv.ErrRange", Rows.laid_strconv_ErrRange) ∈ l) (m5 : ("strconv.ErrSyntax", Rows.laid_strconv_ErrSyntax) ∈ l)
    (hp : (l.filter fun x => x.1 == "internal/strconv.uint64pow10") = [("internal/strconv.uint64pow10", Rows.laid_internal_strconv_uint64pow10)]) : RdEnv W := by
  obtain ⟨hA, hP⟩ := asmVars_of h m1 m2 m3 hp
  exact ⟨hA, hP, ifaceAt_of gErrRA tErrRA (Go.Lib.laidMet.reads h m4), ifaceAt_of gErrSA tErrSA (Go.Lib.laidMet.reads h m5)⟩
end Go.Proofs.YtkeglkneobngnaaDoor

namespace Go.Proofs.YtkeglkneobngnaaDoor
open Go.RowKit
theorem etG : Tryd.prog.globalNamed "errors.errorType" = some 4 := by kernel_rfl
theorem etRt : (Tryd.prog.cutTypes.find? (·.1 == "internal/reflectlite.rtype")).map (·.2) = some 165 := by kernel_rfl
theorem etOne : ((List.range Tryd.prog.types.size).filter fun t => Tryd.prog.rowNamed t [101, 114, 114, 111, 114]) = [30] := by kernel_rfl
theorem errT_of_laid {W : World} {l : List (String × DataW Unit)} (h : laidMetH Tryd.prog l W) (hm : ("errors.errorType", Rows.laid_errors_errorType) ∈ l) : ErrT W := by
  obtain ⟨name, u, ty, e1, e2, e3, e4, e5⟩ := (laidMetH_iff.1 h).2 _ (List.mem_filter.2 ⟨hm, rfl⟩)
  have en : name = [101, 114, 114, 111, 114] := (Option.some.inj e1).symm
  subst en
  obtain rfl := Option.some.inj (etRt.symm.trans e2)
  have hr : ty ∈ (List.range Tryd.prog.types.size).filter fun t => Tryd.prog.rowNamed t [101, 114, 114, 111, 114] := List.mem_filter.2 ⟨List.mem_range.2 e3, e4⟩
  rw [etOne] at hr
  obtain rfl := List.mem_singleton.1 hr
  have hh : typeHandle Tryd.prog 30 = .pointer (some ⟨13, 30, none⟩) := by kernel_rfl
  rw [hh] at e5
  simpa [ErrT] using World.var?_cell etG e5 0
end Go.Proofs.YtkeglkneobngnaaDoor

namespace Go.Proofs.YtkeglkneobngnaaDoor
open Go.RowKit Cd As
theorem asmWrites_laid {W : World} (h : laidMetH Tryd.prog Rows.asmWritesRow.laid W) : (AsmVars W ∧ Pow W) ∧ ErrT W := by
  refine ⟨?_, errT_of_laid h (by repeat' first | exact List.mem_cons_self .. | apply List.mem_cons_of_mem)⟩
  have h1 := (laidMetH_iff.1 h).1
  exact asmVars_of h1 (List.mem_filter.2 ⟨by repeat' first | exact List.mem_cons_self .. | apply List.mem_cons_of_mem, rfl⟩) (List.mem_filter.2 ⟨by repeat' first | exact List.mem_cons_self .. | apply List.mem_cons_of_mem, rfl⟩) (List.mem_filter.2 ⟨by repeat' first | exact List.mem_cons_self .. | apply List.mem_cons_of_mem, rfl⟩) rfl
theorem maxLB_cell {W : World} (h : W.ShapedOpen Tryd.prog) : MaxLB W := Tryd.laysM146.s1_3 W h
end Go.Proofs.YtkeglkneobngnaaDoor

namespace Go.Proofs.YtkeglkneobngnaaDoor
section
variable {H : Type} {enc : TypeId × Value → H}
theorem handed_shaped {C : Checked} {os : Os} {f : FuncId} {fn : Func} {s : ChangeSpec} {apart fresh handsOn again : Bool} {X : World → Array Value → Prop}
    (hX : ∀ (w w' : World) (args : Array Value), w.heap = w'.heap → X w args → X w' args) (own : ownKnob C.prog.godebug = none) (started : os.Started) (noInit : C.prog.inits.idxOf? f = none) (hfn : C.prog.funcs[f]? = some fn)
    (witness : ∃ (w : World) (tape : Tape) (i : Input), w.os = os ∧ (w.forCall tape i).Shaped C.prog ∧ i.vars = [] ∧ Input.okWide C.prog (w.forCall tape i) .any w.heap.size f i ∧
      ((s.pre enc C.prog fn [] apart (w.forCall tape i).memory i.args ∧ X (w.forCall tape i).memory i.args) ∧ sizedMet enc C.prog fn (OpenSpec.ofChange s) apart (w.forCall tape i).memory i.args) ∧ Assume.holds {} C.prog (lone (Frame.enter C.prog f i.args .normal) [] (w.forCall tape i)))
    (contract : ∀ (W : World) (base : Nat) (args : Array Value) (ds gs : List (DataW H)) (before : List MemPlace), (∀ (j : Nat) t v, fn.params[j]? = some t → args[j]? = some v → Value.okWide C.prog W .any base t v) →
      DataW.Whole enc C.prog fn.params.toList s.vars apart W args.toList ds gs before → X W args → W.ShapedOpen C.prog →
      Calls C.prog f args W fun e W' => ∃ v, e = .returned v ∧ s.post enc C.prog fn apart fresh handsOn again W args v W') :
    ReturnsInHanded {} C os f .any (fun w args => (s.pre enc C.prog fn [] apart w args ∧ X w args) ∧ sizedMet enc C.prog fn (OpenSpec.ofChange s) apart w args) (s.post enc C.prog fn apart fresh handsOn again) := by
  refine returnsInHanded_of_calls own started noInit witness ?_
  intro w tape i _ hsh _ hok hpre _
  obtain ⟨_, _, _, fn', hfn', _, _, _, _, hval⟩ := hok
  obtain rfl : fn' = fn := Option.some.inj (hfn'.symm.trans hfn)
  obtain ⟨⟨⟨ds, gs, before, hw, _⟩, hx⟩, _⟩ := hpre
  refine (contract (w.forCall tape i) w.heap.size i.args ds gs before hval (DataW.Whole.of_heap (w' := w.forCall tape i) (by rfl) hw) (hX _ _ _ (by rfl) hx) hsh).mono fun e W' ⟨v, he, hp⟩ => ?_
  subst he
  exact ChangeSpec.post_blind hp
end
end Go.Proofs.YtkeglkneobngnaaDoor
