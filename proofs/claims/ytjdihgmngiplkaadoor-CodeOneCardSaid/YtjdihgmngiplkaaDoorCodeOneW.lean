/-
  The walk of the law CodeOne: just one text.
-/
import Derived.Test.YtjdihgmngiplkaaDoorCodeL4
namespace Go.Proofs.YtjdihgmngiplkaaDoor
open Go.RowKit Cd

theorem flat_ge : ∀ (l : List In), l.length ≤ (l.flatMap insL).length
  | [] => Nat.le_refl _
  | i :: l => by
    have h1 := flat_ge l
    have h2 : 1 ≤ (insL i).length := by unfold insL; rw [List.length_cons]; omega
    rw [List.flatMap_cons, List.length_append, List.length_cons]
    omega
theorem part_le : ∀ (ps : List WPart) (q : WPart), q ∈ ps → q.2.size ≤ (partsL ps).length
  | [], _, h => by cases h
  | p :: ps, q, h => by
    rw [partsL_cons, List.length_append, sealed_length, partL_length]
    rcases List.mem_cons.1 h with rfl | h
    · omega
    · have := part_le ps q h
      omega
theorem fn_part : ∀ (l : List FnV) (k : Nat) (f : FnV), f ∈ l → ∃ t, (t, txt (fnL f)) ∈ fnParts k l
  | [], _, _, h => by cases h
  | g :: l, k, f, h => by
    rcases List.mem_cons.1 h with rfl | h
    · exact ⟨_, List.mem_cons_self⟩
    · obtain ⟨t, ht⟩ := fn_part l (k + 1) f h
      exact ⟨t, List.mem_cons_of_mem _ ht⟩
theorem short_code {p : Pg} {ps : List WPart} {s : ByteArray} (hpc : partsC p = ps) (hw : bs s = wholeL 80 ps) (hs : s.size ≤ 600) : ∀ f ∈ p.fns, f.code.length ≤ 5000 := fun f hf => by
  obtain ⟨t, ht⟩ := fn_part p.fns 0 f hf
  have h1 := part_le (partsC p) _ (List.mem_cons_of_mem _ ht)
  have h2 := flat_ge f.code
  have h3 : (f.code.flatMap insL).length ≤ (fnL f).length := by unfold fnL; rw [List.length_append]; omega
  have h4 := congrArg List.length hw
  rw [bs_length, wholeL, sealed_length, headL_split] at h4
  rw [hpc] at h1
  simp only [txt_size] at h1
  simp at h4
  omega

set_option maxRecDepth 100000 in
set_option maxHeartbeats 6400000 in
theorem codeOne_any (s : ByteArray) (w : World) (_hs : s.size ≤ maxLen) (hL : Leaves w) :
    Calls Tryd.prog 5 #[.string s] w fun e w' => e = .returned (.bool true) ∧ Below w.heap.size w w' := by
  have HL := Lib.hid hL
  unfold maxLen at _hs
  have HCD := Lib.hid (coded_any w hL)
  clear hL
  by_cases h600 : 600 < s.size
  · have h6 : (600 : Int) < (s.size : Int) := by omega
    go_enter Tryd.func5, Tryd.ntmps5
    go_wp2_with fail
    refine HCD.out.mono ?_
    rintro e w1 ⟨rfl, hb1⟩
    go_wp2_with fail
    go_ret
    exact ⟨rfl, hb1⟩
  · have h6 : ¬ (600 : Int) < (s.size : Int) := by omega
    obtain ⟨k, ps, re, hO⟩ := OP.exists s
    have HO := Lib.hid hO
    have hde : decE re k ps = 0 ∨ decE re k ps ≠ 0 := by omega
    clear hO
    go_enter Tryd.func5, Tryd.ntmps5
    go_wp2_with fail
    refine HCD.out.mono ?_
    rintro e w1 ⟨rfl, hb1⟩
    have HB1 := Lib.hid hb1
    have HD := Lib.hid (decode_any s k ps re w1 (by omega) HO.out (HL.out.next hb1))
    clear hb1
    go_wp2_with fail
    refine HD.out.mono ?_
    rintro e w2 ⟨g, vf, rfl, hp2, hb2⟩
    have HB2 := Lib.hid (HB1.out.trans (hb2.mono HB1.out.size))
    have HP2 := Lib.hid hp2
    obtain ⟨_, e2, a9, n9, c9, hv9, -⟩ := hp2
    obtain rfl : vf = .slice a9 n9 c9 := by rw [← hv9]; exact agg2_snd e2
    clear e2 hv9 hb2 HD
    rcases hde with h0 | h0
    · obtain ⟨rfl, rfl, hr, hpc⟩ := dec_one h0
      obtain ⟨hg, -, hw⟩ := HO.out.good rfl (by omega)
      have HPZ : Hid (progE (decV 0 80 ps) = 0) := Lib.hid ((progE_iff _).2 hr)
      have HTX : Hid (encT (decV 0 80 ps) = s) := Lib.hid (by rw [encT_ok HPZ.out, hpc, ← hw, txt_bs])
      have HSM : Hid (∀ f ∈ (decV 0 80 ps).fns, f.code.length ≤ 5000) := Lib.hid fun f hf => short_code hpc hw (by omega) f hf
      have hal := (Below.refl w2.heap.size w2).alloc (Nat.le_refl _) (.cells #[.int .i64 g, .slice a9 n9 c9] 24)
      have HB3 := Lib.hid (HB2.out.trans (hal.mono HB2.out.size))
      have HEN := Lib.hid (encode_any _ _ _ (HP2.out.below hal) HSM.out (HL.out.next HB3.out))
      rw [HTX.out, HPZ.out, errV_0] at HEN
      rw [h0, errV_0]
      clear h0 hal hr hpc hg hw
      go_wp2_with fail
      refine HEN.out.mono ?_
      rintro e w4 ⟨rfl, hb4⟩
      have HB4 := Lib.hid (HB3.out.trans (hb4.mono HB3.out.size))
      clear hb4
      go_wp2_with fail
      go_ret
      exact ⟨rfl, HB4.out⟩
    · rw [errV_nz h0]
      clear h0
      have hal := (Below.refl w2.heap.size w2).alloc (Nat.le_refl _) (.cells #[.int .i64 g, .slice a9 n9 c9] 24)
      have HB3 := Lib.hid (HB2.out.trans (hal.mono HB2.out.size))
      clear hal
      go_wp2_with fail
      go_ret
      exact ⟨rfl, HB3.out⟩
end Go.Proofs.YtjdihgmngiplkaaDoor
