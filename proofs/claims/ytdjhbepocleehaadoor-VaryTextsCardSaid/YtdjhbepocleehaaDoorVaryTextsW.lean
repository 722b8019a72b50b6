/-
  The walk of the law VaryTexts: likewise of texts.
-/
import Derived.Test.YtdjhbepocleehaaDoorRefVary3
import Derived.Test.YtdjhbepocleehaaDoorBareRe
namespace Go.Proofs.YtdjhbepocleehaaDoor
open Go.RowKit

set_option maxRecDepth 100000 in
set_option maxHeartbeats 1600000 in
theorem varyTexts_of (C : VaryC) (n s : ByteArray) (a : Int) (w : World) (_hn : n.size ≤ maxLen) (_hs : s.size ≤ maxLen) (h1 : -9223372036854775808 ≤ a) (h2 : a ≤ 9223372036854775807) (hE : ErrT w) :
    Calls Tryd.prog 5 #[.string n, .string s, .int .i64 a] w fun e w' => e = .returned (.bool true) ∧ Below w.heap.size w w' := by
  have hpe : 0 < w.heap.size := block_lt_of_cell hE
  have HE := Lib.hid hE
  have HC := Lib.hid C
  clear hE
  unfold maxLen at _hs _hn
  by_cases h60 : 60 < s.size
  · go_enter Tryd.func5, Tryd.ntmps5
    go_wp2_with fail
    go_ret
    exact ⟨rfl, Below.refl _ _⟩
  · by_cases h300 : 300 < n.size
    · go_enter Tryd.func5, Tryd.ntmps5
      go_wp2_with fail
      go_ret
      exact ⟨rfl, Below.refl _ _⟩
    by_cases hbad : a < 0 ∨ (s.size : Int) < a
    · have HB := Lib.hid hbad
      clear hbad
      go_enter Tryd.func5, Tryd.ntmps5
      go_wp2_with fail
      refine (HC.out.text n _ (by omega)).mono ?_
      rintro e w1 ⟨rfl, hb1⟩
      go_wp2_with fail
      refine (refText_any n _ (by omega)).mono ?_
      rintro e w2 ⟨rfl, hb2⟩
      go_wp2_with fail
      refine (refReadText_bad s a _ HB.out).mono ?_
      rintro e w' ⟨rfl, rfl⟩
      go_wp2_with fail
      refine (HC.out.readText_bad s a _ (by omega) h1 h2 HB.out).mono ?_
      rintro e w3 ⟨rfl, hb3⟩
      have hb13 : Below w.heap.size w w3 := (hb1.trans (hb2.mono hb1.size)).trans (hb3.mono (Nat.le_trans hb1.size hb2.size))
      have HE3 := Lib.hid (HE.out.below hb13 hpe)
      go_wp2_with fail
      refine (bare_re 2 _ HE3.out).mono ?_
      rintro e w4 ⟨rfl, hb4⟩
      go_wp2_with fail
      go_ret
      exact ⟨rfl, hb13.trans (hb4.mono hb13.size)⟩
    · obtain ⟨k, rfl⟩ := Int.eq_ofNat_of_zero_le (show 0 ≤ a by omega)
      have hk : k ≤ s.size := by omega
      obtain ⟨t, rnext, re, hR⟩ := RT.exists s k
      have HR := Lib.hid hR
      clear hR hbad
      go_enter Tryd.func5, Tryd.ntmps5
      go_wp2_with fail
      refine (HC.out.text n _ (by omega)).mono ?_
      rintro e w1 ⟨rfl, hb1⟩
      go_wp2_with fail
      refine (refText_any n _ (by omega)).mono ?_
      rintro e w2 ⟨rfl, hb2⟩
      go_wp2_with fail
      refine (refReadText_any s t k rnext re _ (by omega) hk HR.out).mono ?_
      rintro e w2a ⟨rfl, hb2a⟩
      go_wp2_with fail
      refine (HC.out.readText s t k rnext re _ (by omega) hk HR.out).mono ?_
      rintro e w3 ⟨rfl, hb3⟩
      have hb12 : Below w.heap.size w w2 := hb1.trans (hb2.mono hb1.size)
      have hb12a : Below w.heap.size w w2a := hb12.trans (hb2a.mono hb12.size)
      have hb13 : Below w.heap.size w w3 := hb12a.trans (hb3.mono hb12a.size)
      have HE3 := Lib.hid (HE.out.below hb13 hpe)
      go_wp2_with fail
      refine (bare_re re _ HE3.out).mono ?_
      rintro e w4 ⟨rfl, hb4⟩
      go_wp2_with fail
      go_ret
      exact ⟨rfl, hb13.trans (hb4.mono hb13.size)⟩
end Go.Proofs.YtdjhbepocleehaaDoor
