/-
  The laws' 'bare' at an error by its number.
-/
import Derived.Test.YtdjhbepocleehaaDoorVaryC
import Derived.Test.YtdjhbepocleehaaDoorTell
namespace Go.Proofs.YtdjhbepocleehaaDoor
open Go.RowKit

/-- What 'bare' says of an error and its number. -/
theorem bare_re (re : Nat) (w : World) (hE : ErrT w) : Calls Tryd.prog 14 #[errV re, .int .i64 re] w fun e w' => e = .returned (.bool true) ∧ Below w.heap.size w w' := by
  unfold errV
  by_cases h : re = 0
  · subst h
    exact (bare_nil w).mono fun _ _ ⟨he, hw⟩ => ⟨he, hw ▸ Below.refl _ _⟩
  · rw [if_neg h]
    exact bare_errno re w hE
end Go.Proofs.YtdjhbepocleehaaDoor
