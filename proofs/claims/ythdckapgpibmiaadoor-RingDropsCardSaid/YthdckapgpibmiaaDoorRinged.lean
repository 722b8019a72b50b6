/-
  The laws' fact 'ringed': two texts go through a ring.
-/
import Derived.Test.YthdckapgpibmiaaDoorRingS3
import Derived.Test.YthdckapgpibmiaaDoorTell
namespace Go.Proofs.YthdckapgpibmiaaDoor
open Go.RowKit

theorem two_new {w : World} {k : Nat} (hk : Two (w.heap.size + 1) w.heap.size k) : w.heap.size ≤ k := by rcases hk with rfl | rfl <;> omega

set_option maxRecDepth 100000 in
set_option maxHeartbeats 3200000 in
theorem ringed_any (w : World) (hE : ErrT w) : Calls Tryd.prog 15 #[] w fun e w' => e = .returned (.bool true) ∧ Below w.heap.size w w' := by
  have HE := Lib.hid hE
  have hpe : 0 < w.heap.size := block_lt_of_cell hE
  clear hE
  go_enter Tryd.func15, Tryd.ntmps15
  go_wp2_with fail
  refine (newS_ok w 2 (by decide)).mono ?_
  rintro e w1 ⟨rfl, hr1, hb1, hs1⟩
  go_wp2_with fail
  refine (lpushS_ok hr1 (by decide) _).mono ?_
  rintro e w2 ⟨rfl, hr2, hk2⟩
  go_wp2_with fail
  refine (lpushS_ok hr2 (by decide) _).mono ?_
  rintro e w3 ⟨rfl, hr3, hk3⟩
  go_wp2_with fail
  refine (lpushS_full hr3 rfl _).mono ?_
  rintro e w4 ⟨rfl, hr4, hk4⟩
  have hb4 : Below w.heap.size w w4 := hb1.trans (((hk2.trans hk3).trans hk4).below (by omega) (fun k _ hk => two_new hk))
  have HS1 := Lib.hid hs1
  clear hs1
  have hle : w1.heap.size ≤ w4.heap.size := Nat.le_trans hk2.size (Nat.le_trans hk3.size hk4.size)
  go_wp2_with fail
  refine (tell_errno 12 _ (HE.out.below hb4 hpe)).mono ?_
  rintro e w5 ⟨rfl, hb5⟩
  have hr5 := hr4.keeps (Keeps.of_new hb5) (S := fun _ => False) (by simp) (by simp)
  go_wp2_with fail
  refine (lpopS_ok hr5).mono ?_
  rintro e w6 ⟨rfl, hr6, hk6⟩
  go_wp2_with fail
  refine (llenS hr6).mono ?_
  rintro e w7 ⟨rfl, rfl⟩
  go_wp2_with fail
  refine (lsizeS hr6).mono ?_
  rintro e w7 ⟨rfl, rfl⟩
  go_wp2_with fail
  go_ret
  exact ⟨rfl, (hb4.trans (hb5.mono hb4.size)).trans (hk6.below (by have := hb4.size; have := hb5.size; omega) (fun k _ hk => two_new hk))⟩
end Go.Proofs.YthdckapgpibmiaaDoor
