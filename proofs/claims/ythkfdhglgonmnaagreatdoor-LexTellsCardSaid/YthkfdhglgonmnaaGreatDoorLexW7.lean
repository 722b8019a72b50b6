/-
  The walks of package lex, seventh part: cutWord, cutSign, cutLine.
-/
import Derived.Test.YthkfdhglgonmnaaGreatDoorLexW6
import Derived.Deep.MidRow
import Derived.Deep.DrawnRows
namespace Go.Proofs.YthkfdhglgonmnaaGreatDoor
open Go.RowKit Lx
variable {w w' : World} {cb a : Nat} {s : ByteArray} {v : Value} {ts : List Tok}

set_option maxRecDepth 100000 in
set_option maxHeartbeats 6400000 in
theorem cutWord_any (w : World) (h : CutAt w cb s a v ts) (ha : a < s.size) (hs : s.size ≤ 4000) (hl : ts.length ≤ 5000) (hE : LexEnv cb w) :
    Calls Tryz.prog 66 #[.pointer (some ⟨cb, 0, none⟩)] w fun e w' => CutSays w' cb s a ts e (wordCut (rs s a)) ∧ Below cb w w' := by
  have H0 := Lib.hid h
  have HE := Lib.hid hE
  have c0 := h.c0
  have c1 := h.c1
  have hcb := h.lt
  have hnl := wordV_le _ (rs s a) (Nat.le_refl _)
  rw [rs_length] at hnl
  obtain ⟨n, hn⟩ : ∃ n, n = wordV (rs s a) := ⟨_, rfl⟩
  obtain ⟨z, hz⟩ : ∃ z, z = a + n := ⟨_, rfl⟩
  have HNC : Hid (wordCut (rs s a) = if isKeyV ((rs s a).take n) then .tok 2 n else if 12 < n then .err 4 else .tok 1 n) := Lib.hid (by unfold wordCut; rw [← hn])
  rw [← hn] at hnl
  have HZ := Lib.hid hz
  have hza : a ≤ z := by omega
  have hzs : z ≤ s.size := by omega
  have HDL : Hid ((s.extract a z).data.toList = (rs s a).take n) := Lib.hid (by rw [rs_extract]; congr 1; omega)
  have HSZ : Hid ((s.extract a z).size = n) := Lib.hid (by rw [ByteArray.size_extract]; omega)
  have WE : Hid (∀ q, Calls Tryz.prog 97 #[.string s, .int .i64 a] (w.drewN q) fun e w' => e = .returned (.int .i64 z) ∧ Below (w.drewN q).heap.size (w.drewN q) w') := Lib.hid fun q => by
    have := wordEnd_any s a (w.drewN q) (by omega) (by omega) (HE.out.drewN q).tabs
    rw [← hn, ← hz] at this
    exact this
  have hai : (a : Int) ≤ (z : Int) := by omega
  have hzi : (0 : Int) ≤ (z : Int) ∧ (z : Int) ≤ (s.size : Int) := by omega
  clear h hE hn hz
  go_enter Tryz.func66, Tryz.ntmps66
  go_wp2_with fail
  go_still_tail 8, (by kernel_rfl)
  change wpList _ _ _ _ _ w.drew
  go_wp2_with (go_at_call 97; refine (WE.out 1).mono ?_; rintro e w1 ⟨rfl, hb1⟩)
  have H1 := Lib.hid ((H0.out.drewN 1).fresh hb1)
  have HE1 := Lib.hid ((HE.out.drewN 1).below hb1 (Nat.le_of_lt hcb))
  have HB1 : Hid (Below cb w w1) := Lib.hid ⟨hb1.os, hb1.tape, hb1.output, hb1.size, fun k hk => hb1.block k (Nat.lt_trans hk hcb)⟩
  clear hb1 c0 c1 WE
  have c0 := H1.out.c0
  have c1 := H1.out.c1
  have hcb1 := H1.out.lt
  go_quiet (fail)
  generalize s.extract a z = D at *
  have hsz := HSZ.out
  subst hsz
  have IK : Hid (∀ W, Calls Tryz.prog 13 #[.string D] W fun e w' => e = .returned (.bool (isKeyV ((rs s a).take D.size))) ∧ W = w') := Lib.hid fun W => by
    have := isKey_any D W
    rw [HDL.out] at this
    exact this
  have TK : Hid (∀ k q, Calls Tryz.prog 62 #[.pointer (some ⟨cb, 0, none⟩), .int .i64 ((k : Nat) : Int), .int .i64 D.size] (w1.drewN q) fun e w' => e = .returned (.tuple #[]) ∧ ∃ v', CutAt w' cb s (a + D.size) v' (ts ++ [⟨k, (rs s a).take D.size, a⟩]) ∧ Below cb (w1.drewN q) w') :=
    Lib.hid fun k q => take_any k D.size _ (H1.out.drewN q) (by have := HZ.out; omega) hs hl
  have WR : Hid (∀ (r q : Nat), Calls Tryz.prog 95 #[.pointer (some ⟨cb, 0, none⟩), .int .i64 r] (w1.drewN q) fun e w' => ∃ x, e = .returned x ∧ AtErr w' cb x r a ∧ Below (w1.drewN q).heap.size (w1.drewN q) w') := Lib.hid fun r q => wrong_any r _ (H1.out.drewN q)
  have BX : Hid (∀ (q : Nat) (w2 : World), Below cb (w1.drewN q) w2 → Below cb w w2) := Lib.hid fun q w2 hb => HB1.out.trans ⟨hb.os, hb.tape, hb.output, hb.size, hb.block⟩
  by_cases hk : isKeyV ((rs s a).take D.size) = true
  · rw [hk] at IK
    rw [if_pos hk] at HNC
    go_wp2_with (first | (go_at_call 13; refine (IK.out _).mono ?_; rintro e w2 ⟨rfl, rfl⟩) | (go_at_call 62; refine (TK.out 2 _).mono ?_; rintro e w3 ⟨rfl, v', hv', hb3⟩))
    go_ret
    rw [HNC.out]
    exact ⟨⟨rfl, v', hv'⟩, BX.out _ _ hb3⟩
  · rw [Bool.eq_false_iff.2 hk] at IK
    rw [if_neg hk] at HNC
    by_cases h12 : 12 < D.size
    · have hi : (12 : Int) < (D.size : Int) := by omega
      rw [if_pos h12] at HNC
      go_wp2_with (first | (go_at_call 13; refine (IK.out _).mono ?_; rintro e w2 ⟨rfl, rfl⟩) | (go_at_call 95; refine (WR.out 4 _).mono ?_; rintro e w3 ⟨x, rfl, hat, hb3⟩))
      go_ret
      rw [HNC.out]
      exact ⟨⟨x, rfl, hat⟩, BX.out _ _ ⟨hb3.os, hb3.tape, hb3.output, hb3.size, fun k hk => hb3.block k (Nat.lt_trans hk hcb1)⟩⟩
    · have hi : ¬ (12 : Int) < (D.size : Int) := by omega
      rw [if_neg h12] at HNC
      go_wp2_with (first | (go_at_call 13; refine (IK.out _).mono ?_; rintro e w2 ⟨rfl, rfl⟩) | (go_at_call 62; refine (TK.out 1 _).mono ?_; rintro e w3 ⟨rfl, v', hv', hb3⟩))
      go_ret
      rw [HNC.out]
      exact ⟨⟨rfl, v', hv'⟩, BX.out _ _ hb3⟩

/-! Signs. -/
theorem sigs_len : sigsL.length = 28 := rfl
def sgsV : Array Value := (sigsL.map fun z => Value.string (mkT z)).toArray
theorem sgsV_get (k : Nat) (h : k < 28) : sgsV[k]? = some (.string (mkT (sigsL.getD k []))) := by
  unfold sgsV
  rw [List.getElem?_toArray, List.getElem?_map, List.getD_eq_getElem?_getD, List.getElem?_eq_getElem (by rw [sigs_len]; exact h)]
  rfl
theorem sgsV_size : sgsV.size = 28 := rfl
theorem sgsV_range (w : World) (h : Sgs w) : w.rangeAt 2 0 sgsV.toList := by
  intro j v hv
  have hj : j < 28 := by
    have := (List.getElem?_eq_some_iff.1 hv).1
    rw [Array.length_toList, sgsV_size] at this
    exact this
  rw [Nat.zero_add, h j hj, ← hv, Array.getElem?_toList, sgsV_get j hj]

theorem info_str : (Tryz.prog.info? 9).map (fun i => (i.zero, i.size, i.bytes)) = some (some (.string ByteArray.empty), 1, 16) := by kernel_rfl
theorem index_sig (X : Array Value) (k : Nat) (z : ByteArray) (hk : k < 28) (hg : X[k]? = some (.string z)) (w : World) :
    (Instr.index 152 (.agg X) (.int .i64 k)).run Tryz.prog w = .ok (.string z) w := by
  obtain ⟨i0, hi, hz0, hz1, hz2⟩ := tinfo info_str
  have hkii : (0 : Int) ≤ (k : Int) ∧ (k : Int) < 28 := by omega
  simp [Instr.index, run_underlying Tryz.underlying152, asIntOf, hkii, hk, hg, go_sem]

set_option maxRecDepth 100000 in
set_option maxHeartbeats 6400000 in
theorem cutSign_any (w : World) (h : CutAt w cb s a v ts) (ha : a < s.size) (hs : s.size ≤ 4000) (hl : ts.length ≤ 5000) (hE : LexEnv cb w) :
    Calls Tryz.prog 67 #[.pointer (some ⟨cb, 0, none⟩)] w fun e w' => CutSays w' cb s a ts e (sigCut (rs s a)) ∧ Below cb w w' := by
  have H0 := Lib.hid h
  have HR := Lib.hid (sgsV_range w hE.sgs)
  have hsi : (Tryz.prog.info? 152).map (·.size) = some sgsV.toList.length := by kernel_rfl
  have HSI := Lib.hid hsi
  clear h hE hsi
  obtain ⟨X, hX⟩ : ∃ X, X = sgsV := ⟨_, rfl⟩
  have HG : Hid (∀ k, k < 28 → X[k]? = some (.string (mkT (sigsL.getD k [])))) := Lib.hid (by rw [hX]; exact sgsV_get)
  have hsz : X.size = 28 := by rw [hX]; rfl
  rw [← hX] at HR HSI
  clear hX
  go_enter Tryz.func67, Tryz.ntmps67
  go_wp2_with (refine wpList_load_mid rfl 152 (.global 2) rfl 2 0 rfl X.toList _ HR.out Tryz.underlying152 rfl HSI.out ?_)
  go_loopw [6] (fun i wr => ∃ k : Nat, k ≤ 28 ∧ i = .int .i64 k ∧ sigsL.find? (·.isPrefixOf (rs s a)) = (sigsL.drop k).find? (·.isPrefixOf (rs s a)) ∧ ∃ q, wr = w.drewN q) (fun i _ => 28 - (intOf i).toNat)
  case atStart => exact ⟨0, by decide, rfl, rfl, 0, rfl⟩
  case round =>
    obtain ⟨k, hk, rfl, hf, q, rfl⟩ := hrel
    have HF := Lib.hid hf
    clear hf
    have c0 := H0.out.c0
    have c1 := H0.out.c1
    have hle : (a : Int) ≤ (s.size : Int) := by omega
    by_cases hlt : k < 28
    · have hg := HG.out k hlt
      have hki : (k : Int) < 28 := by omega
      have hkii : (0 : Int) ≤ (k : Int) ∧ (k : Int) < 28 := by omega
      obtain ⟨z, hz⟩ : ∃ z, z = sigsL.getD k [] := ⟨_, rfl⟩
      rw [← hz] at hg
      have HZ := Lib.hid hz
      clear hz
      have hix := index_sig X k (mkT z) hlt hg
      have HDK : Hid (sigsL.drop k = z :: sigsL.drop (k + 1)) := Lib.hid (by
        rw [List.drop_eq_getElem_cons (by rw [sigs_len]; exact hlt), HZ.out, List.getD_eq_getElem?_getD, List.getElem?_eq_getElem (by rw [sigs_len]; exact hlt)]
        rfl)
      have HX : ∀ r, z.isPrefixOf (rs s a) = r → Hid (∀ q2, Calls Tryz.prog 26 #[.string (s.extract a s.size), .string (mkT z)] (w.drewN (q + q2)) fun e w' => e = .returned (.bool r) ∧ ∃ n, w' = w.drewN (q + n)) := fun r hr => Lib.hid fun q2 => by
        refine (Tryz.strings_HasPrefix (s.extract a s.size) (mkT z) _).mono ?_
        rintro e w' ⟨rfl, rfl⟩
        rw [rs_extract_all]
        exact ⟨by rw [← hr]; rfl, q2, rfl⟩
      by_cases hp : z.isPrefixOf (rs s a) = true
      · have hx := HX _ hp
        have hfind : sigsL.find? (·.isPrefixOf (rs s a)) = some z := by rw [HF.out, HDK.out, List.find?_cons, hp]
        have HR2 : Hid (sigCut (rs s a) = .tok 4 z.length) := Lib.hid (by unfold sigCut; rw [hfind])
        have hzl := (sig_mem hfind).2.length_le
        rw [rs_length] at hzl
        have hms := mkT_size z
        have TK : Hid (∀ q, Calls Tryz.prog 62 #[.pointer (some ⟨cb, 0, none⟩), .int .i64 4, .int .i64 (mkT z).size] (w.drewN q) fun e w' => e = .returned (.tuple #[]) ∧ ∃ v', CutAt w' cb s (a + z.length) v' (ts ++ [⟨4, (rs s a).take z.length, a⟩]) ∧ Below cb (w.drewN q) w') :=
          Lib.hid fun q => by rw [hms]; exact take_any 4 z.length _ (H0.out.drewN q) (by omega) hs hl
        clear hfind hp HX hg hms
        go_wp2_with fail
        go_quiet ((go_at_call 26; exact hx.out _))
        go_wp2_with (go_at_call 62; refine (TK.out _).mono ?_; rintro e w3 ⟨rfl, v', hv', hb3⟩)
        go_ret
        rw [HR2.out]
        exact ⟨⟨rfl, v', hv'⟩, ⟨hb3.os, hb3.tape, hb3.output, hb3.size, hb3.block⟩⟩
      · have hx := HX _ (Bool.eq_false_iff.2 hp)
        have HN2 : Hid (sigsL.find? (·.isPrefixOf (rs s a)) = (sigsL.drop (k + 1)).find? (·.isPrefixOf (rs s a))) := Lib.hid (by rw [HF.out, HDK.out, List.find?_cons, Bool.eq_false_iff.2 hp])
        clear hp HX hg
        go_wp2_with fail
        go_quiet ((go_at_call 26; exact hx.out _))
        go_wp2_with fail
        go_roundw
        case rel => exact ⟨k + 1, by omega, by go_num, HN2.out, _, rfl⟩
        case measure => simp [intOf]; omega
    · have hki : ¬ (k : Int) < 28 := by omega
      have HR2 : Hid (sigCut (rs s a) = .err 3) := Lib.hid (by
        have h2 := HF.out
        rw [List.drop_eq_nil_of_le (by rw [sigs_len]; omega)] at h2
        unfold sigCut
        rw [h2]; rfl)
      have WR := Lib.hid (wrong_any 3 _ (H0.out.drewN q))
      go_wp2_with (go_at_call 95; refine WR.out.mono ?_; rintro e w3 ⟨x, rfl, hat, hb3⟩)
      go_ret
      rw [HR2.out]
      exact ⟨⟨x, rfl, hat⟩, ⟨hb3.os, hb3.tape, hb3.output, hb3.size, fun k hk => hb3.block k (Nat.lt_trans hk H0.out.lt)⟩⟩
end Go.Proofs.YthkfdhglgonmnaaGreatDoor
