/-
  The walks of package ring at numbers: Push, Pop, New.
-/
import Derived.Test.YtpehmghnfbkaaaaDoorRingI1
import Derived.RegionTactic
import Derived.ChangeAlike
import Derived.Deep.RegionWith
import Derived.Deep.RegionHeld3
namespace Go.Proofs.YtpehmghnfbkaaaaDoor
open Go.RowKit

theorem count_ne {a b : Nat} (hl : a < b) : (((a : Nat) : Int) == ((b : Nat) : Int)) = false := by
  rw [beq_eq_false_iff_ne]; omega

set_option maxRecDepth 100000 in
set_option maxHeartbeats 1600000 in
theorem pushI_full {rb sb f : Nat} {row l : List Int} (w : World) (h : RingAt eI w rb sb row f l) (hl : l.length = row.length) (x : Int) :
    Calls Tryd.prog 61 #[.pointer (some ⟨rb, 0, none⟩), .int .i64 x] w fun e w' => e = .returned (.iface 35 (.int .i64 12)) ∧ ∃ n, w' = w.drewN n := by
  have c0 := h.c0
  have c2 := h.c2
  rw [hl] at c2
  clear h hl
  generalize row.length = n at *
  go_enter Tryd.func61, Tryd.ntmps61
  go_wp2_with fail
  go_quiet (fail)
  go_wp2_with fail
  go_ret
  exact ⟨rfl, _, rfl⟩

set_option maxRecDepth 100000 in
set_option maxHeartbeats 1600000 in
theorem pushI_ok {rb sb f : Nat} {row l : List Int} (w : World) (h : RingAt eI w rb sb row f l) (hl : l.length < row.length) (x : Int) :
    Calls Tryd.prog 61 #[.pointer (some ⟨rb, 0, none⟩), .int .i64 x] w fun e w' => e = .returned .nilIface ∧
      RingAt eI w' rb sb (row.set ((f + l.length) % row.length) x) f (l ++ [x]) ∧ Keeps (Two rb sb) w w' := by
  have HH := Lib.hid h
  have c0 := h.c0
  have c2 := h.c2
  have z2 := h.z2
  have hne := h.ne
  have ht := h.top
  have hf : f < row.length := by have := h.fst; omega
  have hj : (f + l.length) % row.length < row.length := Nat.mod_lt _ (by omega)
  have hc := h.cell _ _ (List.getElem?_eq_getElem hj)
  have hz := h.free _ hj
  have g0 := count_ne hl
  have d0 : decide (l.length = row.length) = false := by rw [decide_eq_false_iff_not]; omega
  have d1 : (l.length == row.length) = false := by rw [beq_eq_false_iff_ne]; omega
  have HS : Hid (∀ W : World, RingAt eI W rb sb row f l → Calls Tryd.prog 68 #[.pointer (some ⟨rb, 0, none⟩), .int .i64 (l.length : Nat)] W fun e w' => e = .returned (.int .i64 ((f + l.length) % row.length : Nat)) ∧ ∃ n, w' = W.drewN n) := Lib.hid fun W hW => slotI_any W hW l.length (by omega) (by omega)
  generalize hje : (f + l.length) % row.length = j at *
  have HJ := Lib.hid hje
  clear h hje
  have hji : (0 : Int) ≤ (j : Int) ∧ (j : Int) < (row.length : Int) := by omega
  go_enter Tryd.func61, Tryd.ntmps61
  go_wp2_with fail
  go_quiet (fail)
  go_wp2_with fail
  go_region_with (go_at_call 68; refine (HS.out _ ?_).mono ?_; (first | exact HH.out.drewN _ | exact (HH.out.drewN _).drewN _); rintro e w' ⟨rfl, m, rfl⟩)
  all_goals
    go_wp2_with fail
    go_ret
    exact ⟨rfl, (HH.out.drewN _).push hl x j HJ.out, ((keeps_drewN (Keeps.refl _ _) _).setCell (Or.inl (Or.inr rfl)) _).setCell (Or.inl (Or.inl rfl)) _⟩

set_option maxRecDepth 100000 in
set_option maxHeartbeats 1600000 in
theorem popI_none {rb sb f : Nat} {row : List Int} (w : World) (h : RingAt eI w rb sb row f []) :
    Calls Tryd.prog 60 #[.pointer (some ⟨rb, 0, none⟩)] w fun e w' => e = .returned (.tuple #[.int .i64 0, .iface 35 (.int .i64 8)]) ∧ w = w' := by
  have c2 := h.c2
  have c2' : w.cell? ⟨rb, 2, none⟩ = some (.int .i64 0) := c2
  clear h c2
  go_enter Tryd.func60, Tryd.ntmps60
  go_wp2_with fail
  go_ret2
  exact ⟨rfl, rfl⟩

set_option maxRecDepth 100000 in
set_option maxHeartbeats 1600000 in
theorem popI_ok {rb sb f : Nat} {row l : List Int} {x : Int} (w : World) (h : RingAt eI w rb sb row f (x :: l)) :
    Calls Tryd.prog 60 #[.pointer (some ⟨rb, 0, none⟩)] w fun e w' => e = .returned (.tuple #[.int .i64 x, .nilIface]) ∧
      RingAt eI w' rb sb (row.set f 0) ((f + 1) % row.length) l ∧ Keeps (Two rb sb) w w' := by
  have HH := Lib.hid h
  have c0 := h.c0
  have c1 := h.c1
  have c2 : w.cell? ⟨rb, 2, none⟩ = some (.int .i64 ((l.length : Int) + 1)) := h.c2
  have z1 := h.z1
  have z2 := h.z2
  have hne := h.ne
  have ht := h.top
  have hcn := h.cnt
  rw [List.length_cons] at hcn
  have hf : f < row.length := by have := h.fst; omega
  have hc := h.cell _ _ (h.holds.head hf)
  have hz := h.free _ hf
  have g0 : (((l.length : Nat) : Int) + 1 == 0) = false := by rw [beq_eq_false_iff_ne]; omega
  have g1 : ¬ ((l.length : Int) + 1 = 0) := by omega
  have hfi : (0 : Int) ≤ (f : Int) ∧ (f : Int) < (row.length : Int) := by omega
  obtain ⟨j, hje⟩ : ∃ j, (f + 1) % row.length = j := ⟨_, rfl⟩
  have HJ := Lib.hid hje
  have e1 : ((l.length : Int) + 1 - 1) = (l.length : Int) := by omega
  clear h hje
  go_enter Tryd.func60, Tryd.ntmps60
  go_wp2_with fail
  go_quiet (fail)
  go_wp2_with fail
  go_region
  all_goals
    go_wp2_with fail
    have s0 : ((w.drewN (nq + 1)).setCell ⟨sb, f, none⟩ (.int .i64 0)).cell? ⟨rb, 0, none⟩ = some (.slice (some ⟨sb, 0, none⟩) row.length row.length) := by rw [cell_set_other (slot_ne (Ne.symm hne) _ _)]; exact c0
    have s1 : ((w.drewN (nq + 1)).setCell ⟨sb, f, none⟩ (.int .i64 0)).cell? ⟨rb, 1, none⟩ = some (.int .i64 f) := by rw [cell_set_other (slot_ne (Ne.symm hne) _ _)]; exact c1
    refine (slotI_of _ s0 s1 (by omega) ht 1 (by omega) (by omega)).mono ?_
    rintro e w' ⟨rfl, m, rfl⟩
    rw [HJ.out]
    clear s0 s1
    go_wp2_with fail
    go_ret2
    exact ⟨rfl, HJ.out ▸ ((HH.out.drewN _).pop 0 j HJ.out).drewN _, keeps_drewN ((((keeps_drewN (Keeps.refl _ _) _).setCell (Or.inl (Or.inr rfl)) _).setCell (Or.inl (Or.inl rfl)) _).setCell (Or.inl (Or.inl rfl)) _) _⟩

theorem info_elI : (Tryd.prog.info? 3).map (fun i => (i.zero, i.size, i.bytes)) = some (some (.int .i64 0), 1, 8) := by kernel_rfl
theorem make_elI (n : Nat) (h : n ≤ 64) (W : World) :
    (Instr.makeSlice 70 (.int .i64 n) (.int .i64 n)).run Tryd.prog W = .ok (.slice (some ⟨W.heap.size, 0, none⟩) n n) (W.alloc (.cells (madeCells #[eI 0] n) 3)) := by
  obtain ⟨i0, hi, hz0, hz1, hz2⟩ := info_parts info_elI
  have := run_make (P := Tryd.prog) W 70 3 i0 (eI 0) Tryd.underlying70 hi hz0 .i64 .i64 n n (by omega) (by omega) (by rw [hz2]; omega) (by omega)
  rw [this]
  simp only [Int.toNat_natCast, hz1, Nat.mul_one]
  rfl

set_option maxRecDepth 100000 in
set_option maxHeartbeats 1600000 in
theorem newI_no (w : World) (size : Int) (h : size < 0 ∨ 64 < size) :
    Calls Tryd.prog 26 #[.int .i64 size] w fun e w' => e = .returned (.tuple #[.pointer none, .iface 35 (.int .i64 2)]) ∧ w = w' := by
  by_cases h0 : size < 0
  · go_enter Tryd.func26, Tryd.ntmps26
    go_wp2_with fail
    go_ret2
    exact ⟨rfl, rfl⟩
  · have h1 : 64 < size := by omega
    have d1 : decide (64 < size) = true := by rw [decide_eq_true_eq]; exact h1
    clear h
    go_enter Tryd.func26, Tryd.ntmps26
    go_wp2_with fail
    go_ret2
    exact ⟨rfl, rfl⟩

set_option maxRecDepth 100000 in
set_option maxHeartbeats 1600000 in
theorem newI_ok (w : World) (n : Nat) (h : n ≤ 64) :
    Calls Tryd.prog 26 #[.int .i64 n] w fun e w' => e = .returned (.tuple #[.pointer (some ⟨w.heap.size + 1, 0, none⟩), .nilIface]) ∧
      RingL eI w' (w.heap.size + 1) w.heap.size n [] ∧ Below w.heap.size w w' ∧ w'.heap.size = w.heap.size + 2 := by
  have h0 : ¬ ((n : Int) < 0) := by omega
  have h1 : ¬ (64 < (n : Int)) := by omega
  have d1 : decide (64 < (n : Int)) = false := by rw [decide_eq_false_iff_not]; omega
  have hmk := make_elI n h
  go_enter Tryd.func26, Tryd.ntmps26
  go_wp2_with fail
  go_ret2
  exact ⟨rfl, ⟨_, 0, by simp, RingAt.new eI w 0 n h 3 109⟩, ((Below.refl _ _).alloc (Nat.le_refl _) _).alloc (by simp) _, by simp⟩
end Go.Proofs.YtpehmghnfbkaaaaDoor
