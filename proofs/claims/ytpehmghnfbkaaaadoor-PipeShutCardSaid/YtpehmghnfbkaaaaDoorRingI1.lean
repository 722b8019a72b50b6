/-
  The walks of package ring at numbers: slot, Len, Size, At.
-/
import Derived.Test.YtpehmghnfbkaaaaDoorRingAt
import Derived.Deep.QuietTactic
import Derived.BigQuiet
namespace Go.Proofs.YtpehmghnfbkaaaaDoor
open Go.RowKit
abbrev eI : Int → Value := Value.int .i64

theorem slot_val (f k : Nat) (h : f + k ≤ 9223372036854775807) : IntKind.i64.wrap ((f : Int) + (k : Int)) = ((f + k : Nat) : Int) := by rw [IntKind.wrap_i64]; omega
theorem slot_rem (a n : Nat) : ((a : Nat) : Int).tmod (n : Int) = ((a % n : Nat) : Int) := by rw [Int.tmod_eq_emod_of_nonneg (by omega)]; omega

set_option maxRecDepth 100000 in
set_option maxHeartbeats 1600000 in
theorem slotI_of {rb sb f n : Nat} (w : World) (c0 : w.cell? ⟨rb, 0, none⟩ = some (.slice (some ⟨sb, 0, none⟩) n n)) (c1 : w.cell? ⟨rb, 1, none⟩ = some (.int .i64 f)) (hf : f ≤ 64) (ht : n ≤ 64) (k : Nat) (hk : k ≤ 64) (h0 : 0 < n) :
    Calls Tryd.prog 68 #[.pointer (some ⟨rb, 0, none⟩), .int .i64 k] w fun e w' => e = .returned (.int .i64 ((f + k) % n : Nat)) ∧ ∃ n, w' = w.drewN n := by
  have e1 := slot_val f k (by omega)
  have e2 := slot_rem (f + k) n
  have g0 : ((n : Int) == 0) = false := by rw [beq_eq_false_iff_ne]; omega
  have g1 : ¬ ((n : Int) = 0) := by omega
  go_enter Tryd.func68, Tryd.ntmps68
  go_wp2_with fail
  go_quiet (fail)
  go_wp2_with fail
  go_ret
  exact ⟨rfl, _, rfl⟩

theorem slotI_any {rb sb f : Nat} {row l : List Int} (w : World) (h : RingAt eI w rb sb row f l) (k : Nat) (hk : k ≤ 64) (h0 : 0 < row.length) :
    Calls Tryd.prog 68 #[.pointer (some ⟨rb, 0, none⟩), .int .i64 k] w fun e w' => e = .returned (.int .i64 ((f + k) % row.length : Nat)) ∧ ∃ n, w' = w.drewN n :=
  slotI_of w h.c0 h.c1 (by have := h.fst; have := h.top; omega) h.top k hk h0

set_option maxRecDepth 100000 in
set_option maxHeartbeats 1600000 in
theorem lenI_any {rb sb f : Nat} {row l : List Int} (w : World) (h : RingAt eI w rb sb row f l) :
    Calls Tryd.prog 41 #[.pointer (some ⟨rb, 0, none⟩)] w fun e w' => e = .returned (.int .i64 l.length) ∧ w = w' := by
  have c2 := h.c2
  clear h
  go_enter Tryd.func41, Tryd.ntmps41
  go_wp2_with fail
  go_ret
  exact ⟨rfl, rfl⟩

set_option maxRecDepth 100000 in
set_option maxHeartbeats 1600000 in
theorem sizeI_any {rb sb f : Nat} {row l : List Int} (w : World) (h : RingAt eI w rb sb row f l) :
    Calls Tryd.prog 54 #[.pointer (some ⟨rb, 0, none⟩)] w fun e w' => e = .returned (.int .i64 row.length) ∧ w = w' := by
  have c0 := h.c0
  clear h
  go_enter Tryd.func54, Tryd.ntmps54
  go_wp2_with fail
  go_ret
  exact ⟨rfl, rfl⟩

end Go.Proofs.YtpehmghnfbkaaaaDoor
