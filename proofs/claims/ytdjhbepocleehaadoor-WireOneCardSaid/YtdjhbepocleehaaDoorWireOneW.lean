/-
  The walk of the law WireOne: what is opened was sealed just so.
-/
import Derived.Test.YtdjhbepocleehaaDoorWired
namespace Go.Proofs.YtdjhbepocleehaaDoor
open Go.RowKit

set_option maxRecDepth 100000 in
set_option maxHeartbeats 1600000 in
theorem wireOne_any (s : ByteArray) (w : World) (_hs : s.size ≤ maxLen) (hL : Leaves w) :
    Calls Tryd.prog 9 #[.string s] w fun e w' => e = .returned (.bool true) ∧ Below w.heap.size w w' := by
  have HL := Lib.hid hL
  clear hL
  unfold maxLen at _hs
  by_cases h600 : 600 < s.size
  · have h6 : (600 : Int) < (s.size : Int) := by omega
    go_enter Tryd.func9, Tryd.ntmps9
    go_wp2_with fail
    refine (wired_any _ HL.out).mono ?_
    rintro e w1 ⟨rfl, hb1⟩
    go_wp2_with fail
    go_ret
    exact ⟨rfl, hb1⟩
  · have h6 : ¬ (600 : Int) < (s.size : Int) := by omega
    obtain ⟨k, ps, re, hO⟩ := OP.exists s
    have HO := Lib.hid hO
    clear hO
    go_enter Tryd.func9, Tryd.ntmps9
    go_wp2_with fail
    refine (wired_any _ HL.out).mono ?_
    rintro e w1 ⟨rfl, hb1⟩
    have HL1 := Lib.hid (Leaves.next HL.out hb1)
    go_wp2_with fail
    refine (open_any s k ps re _ (by omega) HO.out HL1.out).mono ?_
    rintro e w2 ⟨v, rfl, hpa, hb2⟩
    have hb02 : Below w.heap.size w w2 := hb1.trans (hb2.mono hb1.size)
    by_cases h0 : re = 0
    · subst h0
      obtain ⟨hg, hk, hw⟩ := HO.out.good rfl (by omega)
      have HPA := Lib.hid hpa
      have HL2 := Lib.hid (Leaves.next HL.out hb02)
      have HG := Lib.hid hg
      have HTL : Hid ((partsL ps).length ≤ 900000) := Lib.hid (by
        have := congrArg List.length hw
        rw [bs_length, wholeL, sealed_length, headL_split] at this
        simp at this; omega)
      have HTS : Hid (txt (wholeL k ps) = s) := Lib.hid (by rw [← hw, txt_bs])
      obtain ⟨ao, n, cap, rfl, -, -, -, -, -⟩ := hpa
      clear hg hw
      rw [errV_0]
      go_wp2_with fail
      refine (seal_good k _ ps _ hk HPA.out HG.out.2.1 HTL.out HL2.out).mono ?_
      rintro e w3 ⟨re, t, rfl, hre, hb3⟩
      rcases hre with ⟨_, rfl, rfl⟩ | ⟨h, _⟩
      · rw [HTS.out, errV_0]
        go_wp2_with fail
        go_ret
        exact ⟨rfl, hb02.trans (hb3.mono hb02.size)⟩
      · exact absurd HG.out h
    · have hnn : errV re = .iface 24 (.int .i64 re) := by unfold errV; rw [if_neg h0]
      rw [hnn]
      go_wp2_with fail
      go_ret
      exact ⟨rfl, hb02⟩
end Go.Proofs.YtdjhbepocleehaaDoor
