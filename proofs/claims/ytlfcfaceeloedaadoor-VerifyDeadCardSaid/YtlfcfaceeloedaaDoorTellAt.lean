/-
  api.Tell and plain.Place at an error with its place (*api.At).
-/
import Derived.Test.YtlfcfaceeloedaaDoorErrAsAt
import Derived.Test.YtlfcfaceeloedaaDoorTellB
import Derived.Deep.QuietTactic
import Derived.BigQuiet
namespace Go.Proofs.YtlfcfaceeloedaaDoor
open Go.RowKit

set_option maxRecDepth 100000 in
set_option maxHeartbeats 800000 in
theorem tell_at (k : Int) (b : Nat) (w : World) (hE : ErrT w) (hc0 : w.cell? ⟨b, 0, none⟩ = some (.int .i64 k)) : Calls Tryd.prog 35 #[.iface 103 (.pointer (some ⟨b, 0, none⟩))] w fun e w' => e = .returned (.int .i64 k) ∧ Below w.heap.size w w' := by
  have HE := Lib.hid (hE.alloc (.cells #[.int .i64 0] 26))
  have hlt : 0 < w.heap.size := block_lt_of_cell hE
  have hbl : b < w.heap.size := block_lt_of_cell hc0
  have HC : Hid ((w.alloc (.cells #[.int .i64 0] 26)).cell? ⟨b, 0, none⟩ = some (.int .i64 k)) := Lib.hid (by rw [World.cell?_alloc_lt _ _ ⟨b, 0, none⟩ hbl]; exact hc0)
  clear hE hc0
  go_enter Tryd.func35, Tryd.ntmps35
  go_wp2_with fail
  refine (asAt_any k b ⟨w.heap.size, 0, none⟩ (.int .i64 0) _ HE.out HC.out (by simp) (by simp)).mono ?_
  rintro e w1 ⟨rfl, hc, hb⟩
  go_wp2_with fail
  go_ret
  exact ⟨rfl, ((Below.refl _ _).alloc (Nat.le_refl _) _).trans hb⟩

theorem at_isAt (p : Addr) (w : World) : (Instr.typeAssert (.iface 103 (.pointer (some p))) 30 103 true).run Tryd.prog w = .ok (.tuple #[.pointer (some p), .bool true]) w := by kernel_rfl

set_option maxRecDepth 100000 in
set_option maxHeartbeats 1600000 in
theorem place_at (k a : Int) (b : Nat) (w : World) (hE : ErrT w) (hc0 : w.cell? ⟨b, 0, none⟩ = some (.int .i64 k)) (hc1 : w.cell? ⟨b, 1, none⟩ = some (.int .i64 a)) : Calls Tryd.prog 30 #[.iface 103 (.pointer (some ⟨b, 0, none⟩))] w fun e w' => e = .returned (.tuple #[.int .i64 k, .int .i64 a]) ∧ Below w.heap.size w w' := by
  have HE := Lib.hid hE
  have HC0 := Lib.hid hc0
  have HC1 := Lib.hid hc1
  have hbl : b < w.heap.size := block_lt_of_cell hc0
  clear hE hc0 hc1
  have t1 := at_isAt ⟨b, 0, none⟩
  go_enter Tryd.func30, Tryd.ntmps30
  go_wp2_with (go_at_call 35; refine (tell_at k b _ HE.out HC0.out).mono ?_; rintro e w1 ⟨rfl, hb⟩)
  have c1 : w1.cell? ⟨b, 1, none⟩ = some (.int .i64 a) := by rw [hb.cell (p := ⟨b, 1, none⟩) hbl]; exact HC1.out
  refine wp_loop_rounds 1 ?_
  rw [rounds_succ]
  go_wp2_with fail
  go_quiet (fail)
  go_wp2_with fail
  go_ret2
  exact ⟨rfl, ⟨hb.os, hb.tape, hb.output, hb.size, hb.block⟩⟩
end Go.Proofs.YtlfcfaceeloedaaDoor
