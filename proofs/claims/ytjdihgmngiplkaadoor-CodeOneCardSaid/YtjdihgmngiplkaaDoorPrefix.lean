/-
  strings.HasPrefix, walked.
-/
import Derived.Test.YtjdihgmngiplkaaDoorText
namespace Go.Proofs.YtjdihgmngiplkaaDoor
open Go.RowKit

set_option maxRecDepth 100000 in
set_option maxHeartbeats 800000 in
theorem hasPrefix_any (s t : ByteArray) (b : Bool) (w : World) (_hs : s.size ≤ maxLen) (_ht : t.size ≤ maxLen) (hb : b = true ↔ bs t <+: bs s) :
    Calls Tryd.prog 70 #[.string s, .string t] w fun e w' => e = .returned (.bool b) ∧ w = w' := by
  unfold maxLen at _hs _ht
  have HB := Lib.hid hb
  clear hb
  by_cases h : t.size ≤ s.size
  · have hx : ((s.extract 0 t.size).toList == t.toList) = b := by
      have e : (s.extract 0 t.size = t) ↔ bs t <+: bs s := by
        rw [List.prefix_iff_eq_take]
        constructor
        · intro he
          have := congrArg bs he
          rw [bs_extract, List.drop_zero] at this
          rw [bs_length]; exact this.symm
        · intro he
          apply bs_inj
          rw [bs_extract, List.drop_zero]
          rw [bs_length] at he
          exact he.symm
      rw [Bool.eq_iff_iff, HB.out, ← e, beq_iff_eq, ByteArray.toList_eq, ByteArray.toList_eq]
      exact ⟨fun h => ByteArray.ext (Array.toList_inj.1 h), fun h => by rw [h]⟩
    have hz : (t.size : Int) ≤ (s.size : Int) := by omega
    go_enter Tryd.func70, Tryd.ntmps70
    go_wp2
    go_ret
    exact ⟨by rw [← hx]; rfl, rfl⟩
  · have hbf : b = false := by
      have := HB.out
      cases b with
      | false => rfl
      | true =>
        have hp := (this.1 rfl).length_le
        rw [bs_length, bs_length] at hp
        omega
    subst hbf
    have hz : ¬ (t.size : Int) ≤ (s.size : Int) := by omega
    go_enter Tryd.func70, Tryd.ntmps70
    go_wp2
    go_ret
    exact ⟨rfl, rfl⟩
end Go.Proofs.YtjdihgmngiplkaaDoor
