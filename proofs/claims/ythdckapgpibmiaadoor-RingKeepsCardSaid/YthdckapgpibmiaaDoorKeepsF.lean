/-
  What RingKeeps hands to Drop: it looks at a number of the call's own.
-/
import Derived.Test.YthdckapgpibmiaaDoorDropL
namespace Go.Proofs.YthdckapgpibmiaaDoor
open Go.RowKit

set_option maxRecDepth 100000 in
set_option maxHeartbeats 1600000 in
theorem keepsF_any (x n : Int) (w : World) (b : Nat) (hc : w.cell? ⟨b, 1, none⟩ = some (.int .i64 n)) :
    Calls Tryd.prog 11 #[.int .i64 x, .pointer (some ⟨b, 0, none⟩)] w fun e w' => e = .returned (.bool (decide (x < n))) ∧ w' = w := by
  go_enter Tryd.func11, Tryd.ntmps11
  go_wp2_with fail
  go_ret
  exact ⟨rfl, rfl⟩
set_option maxHeartbeats 800000 in
/-- At the closure of RingKeeps. -/
theorem says_keeps (x : Int) (a : Addr) (b : Bool) (w : World) {Q : World → Prop}
    (hf : Calls Tryd.prog 11 #[.int .i64 x, .pointer (some a)] w fun e w' => e = .returned (.bool b) ∧ Q w') :
    Calls Tryd.prog 35 #[.func (.func 11) #[] #[.pointer (some a)], .int .i64 x] w fun e w' => e = .returned (.bool b) ∧ Q w' := by
  have hmf : ∀ (fn : Fn) (first cap : Array Value) (w : World), (Instr.makeFunc fn first cap).run Tryd.prog w = .ok (.func fn first cap) w := fun _ _ _ _ => rfl
  go_enter_defers Tryd.func35, Tryd.ntmps35
  go_wp2_with fail
  refine hf.mono ?_
  rintro e w1 ⟨rfl, hq⟩
  go_wp2_with fail
  refine leaves_cons (f := 50) (args := #[]) (by simp) (by simp [go_sem]) ?_
  refine (caught_idle w1).mono ?_
  rintro e u' w'' ⟨rfl, rfl, rfl⟩
  exact ⟨_, results_tmp rfl _ _ _, rfl, hq⟩
/-- It notes nothing. -/
def FstK (b : Nat) (n : Int) (va : Value) (_ : List Int) (W : World) : Prop := va = .slice none 0 0 ∧ W.cell? ⟨b, 1, none⟩ = some (.int .i64 n)
theorem fspec_keeps (b : Nat) (n : Int) : FSpec (.func (.func 11) #[] #[.pointer (some ⟨b, 0, none⟩)]) (fun x => decide (x < n)) (fun k => k = b) (FstK b n) where
  says va A x W h hA := by
    obtain ⟨rfl, hc⟩ := h
    refine says_keeps x ⟨b, 0, none⟩ _ W ((keepsF_any x n W b hc).mono ?_)
    rintro e W' ⟨rfl, rfl⟩
    exact ⟨rfl, _, ⟨rfl, hc⟩, Keeps.refl _ _, fun k e => by cases e⟩
  keeps va A W W' S h hk hZ hv := ⟨h.1, hk.cell_of h.2 (hZ _ rfl)⟩
  own va A W h k e := by rw [h.1] at e; cases e
end Go.Proofs.YthdckapgpibmiaaDoor
