/-
  Whether a function says so: ring's 'says', at a function that doesn't panic.
-/
import Derived.Test.YthdckapgpibmiaaDoorRingAt
import Derived.Defers
import Derived.Recover
namespace Go.Proofs.YthdckapgpibmiaaDoor
open Go.RowKit

/-- The deferred closure, where nothing panics. -/
theorem caught_idle (w : World) : CallsD Tryd.prog 50 #[] .returning w fun e u' w' => e = .returned (.tuple #[]) ∧ u' = .returning ∧ w' = w := by
  refine callsD_of_wpS Tryd.func50 rfl fun c₀ cs hu => ?_
  apply wpS_region
  simp [wpOpsS, go_sem, recoverD, hu, Tryd.ntmps50]
  cases c₀
  simp_all [bodyPostS, results, Tryd.results50]

set_option maxHeartbeats 800000 in
/-- At the closure of RingDrops. -/
theorem says_drops (x : Int) (a m : Addr) (b : Bool) (w : World) {Q : World → Prop}
    (hf : Calls Tryd.prog 18 #[.int .i64 x, .pointer (some a), .pointer (some m)] w fun e w' => e = .returned (.bool b) ∧ Q w') :
    Calls Tryd.prog 35 #[.func (.func 18) #[] #[.pointer (some a), .pointer (some m)], .int .i64 x] w fun e w' => e = .returned (.bool b) ∧ Q w' := by
  have hmf : ∀ (fn : Fn) (first cap : Array Value) (w : World), (Instr.makeFunc fn first cap).run Tryd.prog w = .ok (.func fn first cap) w := fun _ _ _ _ => rfl
  go_enter_defers Tryd.func35, Tryd.ntmps35
  go_wp2_with fail
  refine hf.mono ?_
  rintro e w1 ⟨rfl, hq⟩
  go_wp2_with fail
  refine leaves_cons (f := 50) (args := #[]) (by simp) (by simp [go_sem]) ?_
  refine (caught_idle w1).mono ?_
  rintro e u' w'' ⟨rfl, rfl, rfl⟩
  exact ⟨_, results_tmp rfl _ _ _, rfl, hq⟩
end Go.Proofs.YthdckapgpibmiaaDoor
