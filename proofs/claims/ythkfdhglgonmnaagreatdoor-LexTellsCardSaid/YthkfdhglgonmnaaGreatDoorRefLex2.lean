/-
  The reference's IsKey: a word is looked for in a text of words.
-/
import Derived.Test.YthkfdhglgonmnaaGreatDoorRefLex1
import Derived.Test.YthkfdhglgonmnaaGreatDoorRefLexM
import Derived.Test.YthkfdhglgonmnaaGreatDoorLexTold
namespace Go.Proofs.YthkfdhglgonmnaaGreatDoor
open Go.RowKit Lx

set_option linter.unusedSimpArgs false in
set_option maxRecDepth 100000 in
set_option maxHeartbeats 3200000 in
theorem rIsKey_any (s : ByteArray) (w : World) (hs : s.size ≤ 4000000) (hM : MaxL w) : Calls Tryz.prog 14 #[.string s] w fun e w' => e = .returned (.bool (isKeyV s.data.toList)) ∧ w = w' := by
  obtain ⟨m, hm⟩ := hM
  have hI := isKey_says s.data.toList
  obtain ⟨r, hr⟩ : ∃ r, r = isKeyV s.data.toList := ⟨_, rfl⟩
  rw [← hr] at hI ⊢
  have H1 := Tryz.strings_Contains s ⟨#[32]⟩ m w (by omega) hm
  have H2 := Tryz.strings_Contains keysT (⟨#[32]⟩ ++ s ++ ⟨#[32]⟩) m w (by decide +kernel) hm
  have e2 : (⟨#[32]⟩ ++ s ++ ⟨#[32]⟩ : ByteArray).data.toList = 32 :: (s.data.toList ++ [32]) := by simp
  rw [e2, keysT_eq] at H2
  have e1 : (⟨#[32]⟩ : ByteArray).data.toList = [32] := rfl
  rw [e1] at H1
  generalize Lib.contains s.data.toList [32] = c1 at *
  generalize Lib.contains (spaced keysL) (32 :: (s.data.toList ++ [32])) = c2 at *
  rw [← Lib.toList_data] at hI
  clear e1 e2 hr
  have G1 := Lib.hid H1
  have G2 := Lib.hid H2
  clear H1 H2 hm
  cases hE : s.toList.isEmpty <;> rw [hE] at hI <;> cases c1 <;> cases c2
  all_goals
    have hR := Lib.hid hI
    clear hI
    go_enter Tryz.func14, Tryz.ntmps14
    go_wp2_with (go_at_call 38; first | (refine G1.out.mono ?_; rintro e w2 ⟨rfl, rfl⟩) | (refine G2.out.mono ?_; rintro e w2 ⟨rfl, rfl⟩))
  all_goals
    go_ret
    exact ⟨by rw [← hR.out]; rfl, rfl⟩
end Go.Proofs.YthkfdhglgonmnaaGreatDoor
