/-
  The walks of package ring at texts (by ringgen.py, out of those at numbers): slot, Len, Size.
-/
import Derived.Test.YthdckapgpibmiaaDoorRingI1
import Derived.Deep.QuietTactic
import Derived.BigQuiet
namespace Go.Proofs.YthdckapgpibmiaaDoor
open Go.RowKit
abbrev eS : ByteArray → Value := Value.string


set_option maxRecDepth 100000 in
set_option maxHeartbeats 1600000 in
theorem slotS_of {rb sb f n : Nat} (w : World) (c0 : w.cell? ⟨rb, 0, none⟩ = some (.slice (some ⟨sb, 0, none⟩) n n)) (c1 : w.cell? ⟨rb, 1, none⟩ = some (.int .i64 f)) (hf : f ≤ 64) (ht : n ≤ 64) (k : Nat) (hk : k ≤ 64) (h0 : 0 < n) :
    Calls Tryd.prog 51 #[.pointer (some ⟨rb, 0, none⟩), .int .i64 k] w fun e w' => e = .returned (.int .i64 ((f + k) % n : Nat)) ∧ ∃ n, w' = w.drewN n := by
  have e1 := slot_val f k (by omega)
  have e2 := slot_rem (f + k) n
  have g0 : ((n : Int) == 0) = false := by rw [beq_eq_false_iff_ne]; omega
  have g1 : ¬ ((n : Int) = 0) := by omega
  go_enter Tryd.func51, Tryd.ntmps51
  go_wp2_with fail
  go_quiet (fail)
  go_wp2_with fail
  go_ret
  exact ⟨rfl, _, rfl⟩

theorem slotS_any {rb sb f : Nat} {row l : List ByteArray} (w : World) (h : RingAt eS w rb sb row f l) (k : Nat) (hk : k ≤ 64) (h0 : 0 < row.length) :
    Calls Tryd.prog 51 #[.pointer (some ⟨rb, 0, none⟩), .int .i64 k] w fun e w' => e = .returned (.int .i64 ((f + k) % row.length : Nat)) ∧ ∃ n, w' = w.drewN n :=
  slotS_of w h.c0 h.c1 (by have := h.fst; have := h.top; omega) h.top k hk h0

set_option maxRecDepth 100000 in
set_option maxHeartbeats 1600000 in
theorem lenS_any {rb sb f : Nat} {row l : List ByteArray} (w : World) (h : RingAt eS w rb sb row f l) :
    Calls Tryd.prog 40 #[.pointer (some ⟨rb, 0, none⟩)] w fun e w' => e = .returned (.int .i64 l.length) ∧ w = w' := by
  have c2 := h.c2
  clear h
  go_enter Tryd.func40, Tryd.ntmps40
  go_wp2_with fail
  go_ret
  exact ⟨rfl, rfl⟩

set_option maxRecDepth 100000 in
set_option maxHeartbeats 1600000 in
theorem sizeS_any {rb sb f : Nat} {row l : List ByteArray} (w : World) (h : RingAt eS w rb sb row f l) :
    Calls Tryd.prog 41 #[.pointer (some ⟨rb, 0, none⟩)] w fun e w' => e = .returned (.int .i64 row.length) ∧ w = w' := by
  have c0 := h.c0
  clear h
  go_enter Tryd.func41, Tryd.ntmps41
  go_wp2_with fail
  go_ret
  exact ⟨rfl, rfl⟩

end Go.Proofs.YthdckapgpibmiaaDoor
