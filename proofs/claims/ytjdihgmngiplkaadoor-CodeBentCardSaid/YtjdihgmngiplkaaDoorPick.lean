/-
  The walk of the laws' helper 'pick': a number below n.
-/
import Derived.Test.YtjdihgmngiplkaaDoorRows
import Derived.WalkKit
import Derived.WalkSpells
import Derived.WalkLawsBesides
import Derived.Lib.Hide
namespace Go.Proofs.YtjdihgmngiplkaaDoor
open Go.RowKit

theorem pick_val (a : Int) (n : Nat) (h0 : 0 < n) (hn : n ≤ 9223372036854775807) : wrap64 ((IntKind.u64.wrap a).tmod n) = ((IntKind.u64.wrap a % (n : Int)).toNat : Int) ∧ (IntKind.u64.wrap a % (n : Int)).toNat < n := by
  have hu : 0 ≤ IntKind.u64.wrap a := by rw [IntKind.wrap_u64]; omega
  have e1 : (IntKind.u64.wrap a).tmod n = IntKind.u64.wrap a % n := Int.tmod_eq_emod_of_nonneg hu
  have l0 : 0 ≤ IntKind.u64.wrap a % (n : Int) := Int.emod_nonneg _ (by omega)
  have l1 : IntKind.u64.wrap a % (n : Int) < n := Int.emod_lt_of_pos _ (by omega)
  rw [e1]
  refine ⟨?_, by omega⟩
  rw [IntWalk.wrap64_in _ ⟨by omega, by omega⟩]; omega

set_option maxHeartbeats 400000 in
theorem pick_any (a : Int) (n : Nat) (w : World) (h0 : 0 < n) (hn : n ≤ 9223372036854775807) :
    Calls Tryd.prog 43 #[.int .i64 a, .int .i64 n] w fun e w' => ∃ r : Nat, r < n ∧ e = .returned (.int .i64 r) ∧ w = w' := by
  go_enter Tryd.func43, Tryd.ntmps43
  go_wp2_with fail
  go_ret
  obtain ⟨e, hl⟩ := pick_val a n h0 hn
  exact ⟨_, hl, by rw [← e]; rfl, rfl⟩
end Go.Proofs.YtjdihgmngiplkaaDoor
