/-
  The walks of package ring at numbers: slot, Len, Size, At.
-/
import Derived.Test.YthdckapgpibmiaaDoorRingAt
import Derived.Deep.QuietTactic
import Derived.BigQuiet
namespace Go.Proofs.YthdckapgpibmiaaDoor
open Go.RowKit
abbrev eI : Int → Value := Value.int .i64

theorem slot_val (f k : Nat) (h : f + k ≤ 9223372036854775807) : IntKind.i64.wrap ((f : Int) + (k : Int)) = ((f + k : Nat) : Int) := by rw [IntKind.wrap_i64]; omega
theorem slot_rem (a n : Nat) : ((a : Nat) : Int).tmod (n : Int) = ((a % n : Nat) : Int) := by rw [Int.tmod_eq_emod_of_nonneg (by omega)]; omega

set_option maxRecDepth 100000 in
set_option maxHeartbeats 1600000 in
theorem slotI_of {rb sb f n : Nat} (w : World) (c0 : w.cell? ⟨rb, 0, none⟩ = some (.slice (some ⟨sb, 0, none⟩) n n)) (c1 : w.cell? ⟨rb, 1, none⟩ = some (.int .i64 f)) (hf : f ≤ 64) (ht : n ≤ 64) (k : Nat) (hk : k ≤ 64) (h0 : 0 < n) :
    Calls Tryd.prog 33 #[.pointer (some ⟨rb, 0, none⟩), .int .i64 k] w fun e w' => e = .returned (.int .i64 ((f + k) % n : Nat)) ∧ ∃ n, w' = w.drewN n := by
  have e1 := slot_val f k (by omega)
  have e2 := slot_rem (f + k) n
  have g0 : ((n : Int) == 0) = false := by rw [beq_eq_false_iff_ne]; omega
  have g1 : ¬ ((n : Int) = 0) := by omega
  go_enter Tryd.func33, Tryd.ntmps33
  go_wp2_with fail
  go_quiet (fail)
  go_wp2_with fail
  go_ret
  exact ⟨rfl, _, rfl⟩

theorem slotI_any {rb sb f : Nat} {row l : List Int} (w : World) (h : RingAt eI w rb sb row f l) (k : Nat) (hk : k ≤ 64) (h0 : 0 < row.length) :
    Calls Tryd.prog 33 #[.pointer (some ⟨rb, 0, none⟩), .int .i64 k] w fun e w' => e = .returned (.int .i64 ((f + k) % row.length : Nat)) ∧ ∃ n, w' = w.drewN n :=
  slotI_of w h.c0 h.c1 (by have := h.fst; have := h.top; omega) h.top k hk h0

set_option maxRecDepth 100000 in
set_option maxHeartbeats 1600000 in
theorem lenI_any {rb sb f : Nat} {row l : List Int} (w : World) (h : RingAt eI w rb sb row f l) :
    Calls Tryd.prog 13 #[.pointer (some ⟨rb, 0, none⟩)] w fun e w' => e = .returned (.int .i64 l.length) ∧ w = w' := by
  have c2 := h.c2
  clear h
  go_enter Tryd.func13, Tryd.ntmps13
  go_wp2_with fail
  go_ret
  exact ⟨rfl, rfl⟩

set_option maxRecDepth 100000 in
set_option maxHeartbeats 1600000 in
theorem sizeI_any {rb sb f : Nat} {row l : List Int} (w : World) (h : RingAt eI w rb sb row f l) :
    Calls Tryd.prog 14 #[.pointer (some ⟨rb, 0, none⟩)] w fun e w' => e = .returned (.int .i64 row.length) ∧ w = w' := by
  have c0 := h.c0
  clear h
  go_enter Tryd.func14, Tryd.ntmps14
  go_wp2_with fail
  go_ret
  exact ⟨rfl, rfl⟩

set_option maxRecDepth 100000 in
set_option maxHeartbeats 1600000 in
theorem atI_no {rb sb f : Nat} {row l : List Int} (w : World) (h : RingAt eI w rb sb row f l) (k : Int) (hk : k < 0 ∨ (l.length : Int) ≤ k) :
    Calls Tryd.prog 12 #[.pointer (some ⟨rb, 0, none⟩), .int .i64 k] w fun e w' => e = .returned (.tuple #[.int .i64 0, .iface 29 (.int .i64 2)]) ∧ w = w' := by
  have c2 := h.c2
  clear h
  by_cases h0 : k < 0
  · go_enter Tryd.func12, Tryd.ntmps12
    go_wp2_with fail
    go_ret2
    exact ⟨rfl, rfl⟩
  · have h1 : (l.length : Int) ≤ k := by omega
    have d1 : decide ((l.length : Int) ≤ k) = true := by rw [decide_eq_true_eq]; exact h1
    clear hk
    go_enter Tryd.func12, Tryd.ntmps12
    go_wp2_with fail
    go_ret2
    exact ⟨rfl, rfl⟩

set_option maxRecDepth 100000 in
set_option maxHeartbeats 1600000 in
theorem atI_ok {rb sb f : Nat} {row l : List Int} (w : World) (h : RingAt eI w rb sb row f l) (k : Nat) (x : Int) (hx : l[k]? = some x) :
    Calls Tryd.prog 12 #[.pointer (some ⟨rb, 0, none⟩), .int .i64 k] w fun e w' => e = .returned (.tuple #[.int .i64 x, .nilIface]) ∧ ∃ n, w' = w.drewN n := by
  have hkl : k < l.length := (List.getElem?_eq_some_iff.1 hx).1
  have HH := Lib.hid h
  have c0 := h.c0
  have c2 := h.c2
  have ht := h.top
  have hcn := h.cnt
  have hj : (f + k) % row.length < row.length := Nat.mod_lt _ (by omega)
  have hc := h.cell _ x (h.holds k x hx)
  have hki : ¬ ((k : Int) < 0) := by omega
  have hkd : ¬ ((l.length : Int) ≤ (k : Int)) := by omega
  have d1 : decide (l.length ≤ k) = false := by rw [decide_eq_false_iff_not]; omega
  have h64 : k ≤ 64 := by omega
  have hn0 : 0 < row.length := by omega
  have HS : Hid (∀ W : World, RingAt eI W rb sb row f l → Calls Tryd.prog 33 #[.pointer (some ⟨rb, 0, none⟩), .int .i64 k] W fun e w' => e = .returned (.int .i64 ((f + k) % row.length : Nat)) ∧ ∃ n, w' = W.drewN n) := Lib.hid fun W hW => slotI_any W hW k h64 hn0
  clear h hx
  generalize (f + k) % row.length = j at *
  have hji : (0 : Int) ≤ (j : Int) ∧ (j : Int) < (row.length : Int) := by omega
  go_enter Tryd.func12, Tryd.ntmps12
  go_wp2_with fail
  go_quiet ((go_at_call 33; exact Calls.quiet_of (HS.out _ (HH.out.drewN _))))
  go_wp2_with fail
  go_ret2
  exact ⟨rfl, _, rfl⟩
end Go.Proofs.YthdckapgpibmiaaDoor
