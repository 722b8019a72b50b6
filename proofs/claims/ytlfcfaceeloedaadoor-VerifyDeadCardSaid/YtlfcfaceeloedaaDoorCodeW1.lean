/-
  The walks of package code's small functions: span, HasN, isOp, mayBe, count, tag.
-/
import Derived.Test.YtlfcfaceeloedaaDoorCodeAt
import Derived.Test.YtlfcfaceeloedaaDoorErrV
import Derived.Deep.QuietTactic
import Derived.BigQuiet
namespace Go.Proofs.YtlfcfaceeloedaaDoor
open Go.RowKit Cd

set_option maxRecDepth 100000 in
set_option maxHeartbeats 800000 in
theorem span_1 (w : World) : Calls Tryd.prog 62 #[.int .i64 1] w fun e w' => e = .returned (.tuple #[.int .i64 (-9223372036854775808), .int .i64 9223372036854775807]) ∧ w' = w := by
  go_enter Tryd.func62, Tryd.ntmps62
  go_wp2_with fail
  go_ret2
  exact ⟨rfl, rfl⟩
set_option maxRecDepth 100000 in
set_option maxHeartbeats 800000 in
theorem span_2 (w : World) : Calls Tryd.prog 62 #[.int .i64 2] w fun e w' => e = .returned (.tuple #[.int .i64 (0), .int .i64 1]) ∧ w' = w := by
  go_enter Tryd.func62, Tryd.ntmps62
  go_wp2_with fail
  go_ret2
  exact ⟨rfl, rfl⟩
set_option maxRecDepth 100000 in
set_option maxHeartbeats 800000 in
theorem span_8 (w : World) : Calls Tryd.prog 62 #[.int .i64 8] w fun e w' => e = .returned (.tuple #[.int .i64 (1), .int .i64 16]) ∧ w' = w := by
  go_enter Tryd.func62, Tryd.ntmps62
  go_wp2_with fail
  go_ret2
  exact ⟨rfl, rfl⟩
set_option maxRecDepth 100000 in
set_option maxHeartbeats 800000 in
theorem span_9 (w : World) : Calls Tryd.prog 62 #[.int .i64 9] w fun e w' => e = .returned (.tuple #[.int .i64 (17), .int .i64 19]) ∧ w' = w := by
  go_enter Tryd.func62, Tryd.ntmps62
  go_wp2_with fail
  go_ret2
  exact ⟨rfl, rfl⟩
set_option maxRecDepth 100000 in
set_option maxHeartbeats 800000 in
theorem span_4 (w : World) : Calls Tryd.prog 62 #[.int .i64 4] w fun e w' => e = .returned (.tuple #[.int .i64 (0), .int .i64 9223372036854775807]) ∧ w' = w := by
  go_enter Tryd.func62, Tryd.ntmps62
  go_wp2_with fail
  go_ret2
  exact ⟨rfl, rfl⟩
set_option maxRecDepth 100000 in
set_option maxHeartbeats 800000 in
theorem span_5 (w : World) : Calls Tryd.prog 62 #[.int .i64 5] w fun e w' => e = .returned (.tuple #[.int .i64 (0), .int .i64 9223372036854775807]) ∧ w' = w := by
  go_enter Tryd.func62, Tryd.ntmps62
  go_wp2_with fail
  go_ret2
  exact ⟨rfl, rfl⟩
set_option maxRecDepth 100000 in
set_option maxHeartbeats 800000 in
theorem span_6 (w : World) : Calls Tryd.prog 62 #[.int .i64 6] w fun e w' => e = .returned (.tuple #[.int .i64 (0), .int .i64 9223372036854775807]) ∧ w' = w := by
  go_enter Tryd.func62, Tryd.ntmps62
  go_wp2_with fail
  go_ret2
  exact ⟨rfl, rfl⟩
set_option maxRecDepth 100000 in
set_option maxHeartbeats 800000 in
theorem span_7 (w : World) : Calls Tryd.prog 62 #[.int .i64 7] w fun e w' => e = .returned (.tuple #[.int .i64 (0), .int .i64 9223372036854775807]) ∧ w' = w := by
  go_enter Tryd.func62, Tryd.ntmps62
  go_wp2_with fail
  go_ret2
  exact ⟨rfl, rfl⟩
set_option maxRecDepth 100000 in
set_option maxHeartbeats 800000 in
theorem span_11 (w : World) : Calls Tryd.prog 62 #[.int .i64 11] w fun e w' => e = .returned (.tuple #[.int .i64 (0), .int .i64 9223372036854775807]) ∧ w' = w := by
  go_enter Tryd.func62, Tryd.ntmps62
  go_wp2_with fail
  go_ret2
  exact ⟨rfl, rfl⟩
set_option maxRecDepth 100000 in
set_option maxHeartbeats 800000 in
theorem span_12 (w : World) : Calls Tryd.prog 62 #[.int .i64 12] w fun e w' => e = .returned (.tuple #[.int .i64 (0), .int .i64 9223372036854775807]) ∧ w' = w := by
  go_enter Tryd.func62, Tryd.ntmps62
  go_wp2_with fail
  go_ret2
  exact ⟨rfl, rfl⟩
set_option maxRecDepth 100000 in
set_option maxHeartbeats 800000 in
theorem span_13 (w : World) : Calls Tryd.prog 62 #[.int .i64 13] w fun e w' => e = .returned (.tuple #[.int .i64 (0), .int .i64 9223372036854775807]) ∧ w' = w := by
  go_enter Tryd.func62, Tryd.ntmps62
  go_wp2_with fail
  go_ret2
  exact ⟨rfl, rfl⟩
set_option maxRecDepth 100000 in
set_option maxHeartbeats 800000 in
theorem span_15 (w : World) : Calls Tryd.prog 62 #[.int .i64 15] w fun e w' => e = .returned (.tuple #[.int .i64 (0), .int .i64 9223372036854775807]) ∧ w' = w := by
  go_enter Tryd.func62, Tryd.ntmps62
  go_wp2_with fail
  go_ret2
  exact ⟨rfl, rfl⟩
set_option maxRecDepth 100000 in
set_option maxHeartbeats 800000 in
theorem span_23 (w : World) : Calls Tryd.prog 62 #[.int .i64 23] w fun e w' => e = .returned (.tuple #[.int .i64 (0), .int .i64 9223372036854775807]) ∧ w' = w := by
  go_enter Tryd.func62, Tryd.ntmps62
  go_wp2_with fail
  go_ret2
  exact ⟨rfl, rfl⟩
set_option maxRecDepth 100000 in
set_option maxHeartbeats 800000 in
theorem span_24 (w : World) : Calls Tryd.prog 62 #[.int .i64 24] w fun e w' => e = .returned (.tuple #[.int .i64 (0), .int .i64 9223372036854775807]) ∧ w' = w := by
  go_enter Tryd.func62, Tryd.ntmps62
  go_wp2_with fail
  go_ret2
  exact ⟨rfl, rfl⟩
set_option maxRecDepth 100000 in
set_option maxHeartbeats 800000 in
theorem span_25 (w : World) : Calls Tryd.prog 62 #[.int .i64 25] w fun e w' => e = .returned (.tuple #[.int .i64 (0), .int .i64 9223372036854775807]) ∧ w' = w := by
  go_enter Tryd.func62, Tryd.ntmps62
  go_wp2_with fail
  go_ret2
  exact ⟨rfl, rfl⟩
set_option maxRecDepth 100000 in
set_option maxHeartbeats 800000 in
theorem span_26 (w : World) : Calls Tryd.prog 62 #[.int .i64 26] w fun e w' => e = .returned (.tuple #[.int .i64 (0), .int .i64 9223372036854775807]) ∧ w' = w := by
  go_enter Tryd.func62, Tryd.ntmps62
  go_wp2_with fail
  go_ret2
  exact ⟨rfl, rfl⟩
set_option maxRecDepth 100000 in
set_option maxHeartbeats 1600000 in
theorem span_else (op : Int) (w : World) (h1 : op ≠ 1) (h2 : op ≠ 2) (h8 : op ≠ 8) (h9 : op ≠ 9) (h4 : op ≠ 4) (h5 : op ≠ 5) (h6 : op ≠ 6) (h7 : op ≠ 7) (h11 : op ≠ 11) (h12 : op ≠ 12) (h13 : op ≠ 13) (h15 : op ≠ 15) (h23 : op ≠ 23) (h24 : op ≠ 24) (h25 : op ≠ 25) (h26 : op ≠ 26) : Calls Tryd.prog 62 #[.int .i64 op] w fun e w' => e = .returned (.tuple #[.int .i64 0, .int .i64 0]) ∧ w' = w := by
  go_enter Tryd.func62, Tryd.ntmps62
  go_wp2_with fail
  go_ret2
  exact ⟨rfl, rfl⟩
theorem span_any (op : Int) (w : World) : Calls Tryd.prog 62 #[.int .i64 op] w fun e w' => e = .returned (.tuple #[.int .i64 (leastI op), .int .i64 (mostI op)]) ∧ w' = w := by
  by_cases h1 : op = 1
  · subst h1; exact span_1 w
  by_cases h2 : op = 2
  · subst h2; exact span_2 w
  by_cases h8 : op = 8
  · subst h8; exact span_8 w
  by_cases h9 : op = 9
  · subst h9; exact span_9 w
  by_cases h4 : op = 4
  · subst h4; exact span_4 w
  by_cases h5 : op = 5
  · subst h5; exact span_5 w
  by_cases h6 : op = 6
  · subst h6; exact span_6 w
  by_cases h7 : op = 7
  · subst h7; exact span_7 w
  by_cases h11 : op = 11
  · subst h11; exact span_11 w
  by_cases h12 : op = 12
  · subst h12; exact span_12 w
  by_cases h13 : op = 13
  · subst h13; exact span_13 w
  by_cases h15 : op = 15
  · subst h15; exact span_15 w
  by_cases h23 : op = 23
  · subst h23; exact span_23 w
  by_cases h24 : op = 24
  · subst h24; exact span_24 w
  by_cases h25 : op = 25
  · subst h25; exact span_25 w
  by_cases h26 : op = 26
  · subst h26; exact span_26 w
  have e1 : leastI op = 0 := by unfold leastI; rw [if_neg h1, if_neg h8, if_neg h9]
  have e3 : manyB op = false := by unfold manyB; simp [*]
  have e2 : mostI op = 0 := by unfold mostI; rw [if_neg h1, if_neg h2, if_neg h8, if_neg h9, e3]; rfl
  rw [e1, e2]
  exact span_else op w h1 h2 h8 h9 h4 h5 h6 h7 h11 h12 h13 h15 h23 h24 h25 h26

set_option maxRecDepth 100000 in
set_option maxHeartbeats 800000 in
theorem hasN_any (op : Int) (w : World) : Calls Tryd.prog 48 #[.int .i64 op] w fun e w' => e = .returned (.bool (hasN op)) ∧ w' = w := by
  have hh : hasN op = (decide (leastI op < 0) || decide (0 < mostI op)) := rfl
  rw [hh]
  clear hh
  go_enter Tryd.func48, Tryd.ntmps48
  go_wp2_with fail
  refine (span_any op _).mono ?_
  rintro e w1 ⟨rfl, rfl⟩
  by_cases h1 : leastI op < 0
  · go_wp2_with fail
    go_ret
    exact ⟨congrArg (fun b => Ending.returned (Value.bool b)) (Bool.eq_iff_iff.2 (by simp <;> omega)), rfl⟩
  · by_cases h2 : 0 < mostI op
    · go_wp2_with fail
      go_ret
      exact ⟨congrArg (fun b => Ending.returned (Value.bool b)) (Bool.eq_iff_iff.2 (by simp <;> omega)), rfl⟩
    · go_wp2_with fail
      go_ret
      exact ⟨congrArg (fun b => Ending.returned (Value.bool b)) (Bool.eq_iff_iff.2 (by simp <;> omega)), rfl⟩

set_option maxRecDepth 100000 in
set_option maxHeartbeats 800000 in
theorem isOp_any (op : Int) (w : World) : Calls Tryd.prog 66 #[.int .i64 op] w fun e w' => e = .returned (.bool (decide (1 ≤ op) && decide (op ≤ 26))) ∧ w' = w := by
  by_cases h1 : 1 ≤ op
  · by_cases h2 : op ≤ 26
    · go_enter Tryd.func66, Tryd.ntmps66
      go_wp2_with fail
      go_ret
      exact ⟨congrArg (fun b => Ending.returned (Value.bool b)) (Bool.eq_iff_iff.2 (by simp <;> omega)), rfl⟩
    · go_enter Tryd.func66, Tryd.ntmps66
      go_wp2_with fail
      go_ret
      exact ⟨congrArg (fun b => Ending.returned (Value.bool b)) (Bool.eq_iff_iff.2 (by simp <;> omega)), rfl⟩
  · go_enter Tryd.func66, Tryd.ntmps66
    go_wp2_with fail
    go_ret
    exact ⟨congrArg (fun b => Ending.returned (Value.bool b)) (Bool.eq_iff_iff.2 (by simp <;> omega)), rfl⟩

set_option maxRecDepth 100000 in
set_option maxHeartbeats 1600000 in
theorem mayBe_ins (op n : Int) (w : World) : Calls Tryd.prog 56 #[.agg #[.int .i64 op, .int .i64 n]] w fun e w' => e = .returned (.bool (mayB (op, n))) ∧ Below w.heap.size w w' := by
  have hh : mayB (op, n) = (decide (1 ≤ op) && decide (op ≤ 26) && decide (leastI op ≤ n) && decide (n ≤ mostI op)) := rfl
  rw [hh]
  clear hh
  have hb := (Below.refl w.heap.size w).alloc (Nat.le_refl _) (.cells #[.int .i64 op, .int .i64 n] 37)
  go_enter Tryd.func56, Tryd.ntmps56
  go_wp2_with fail
  refine (isOp_any op _).mono ?_
  rintro e w1 ⟨rfl, rfl⟩
  cases h0 : (decide (1 ≤ op) && decide (op ≤ 26)) with
  | false =>
    have H0 : Hid (¬ (1 ≤ op ∧ op ≤ 26)) := Lib.hid (by simpa using h0)
    clear h0
    go_wp2_with fail
    go_ret
    exact ⟨congrArg (fun b => Ending.returned (Value.bool b)) (Bool.eq_iff_iff.2 (by have := H0.out; simp <;> omega)), hb⟩
  | true =>
    have H0 : Hid (1 ≤ op ∧ op ≤ 26) := Lib.hid (by simpa using h0)
    clear h0
    go_wp2_with fail
    refine (span_any op _).mono ?_
    rintro e w1 ⟨rfl, rfl⟩
    by_cases h1 : leastI op ≤ n
    · by_cases h2 : n ≤ mostI op
      · go_wp2_with fail
        go_ret
        exact ⟨congrArg (fun b => Ending.returned (Value.bool b)) (Bool.eq_iff_iff.2 (by have := H0.out; simp <;> omega)), hb⟩
      · go_wp2_with fail
        go_ret
        exact ⟨congrArg (fun b => Ending.returned (Value.bool b)) (Bool.eq_iff_iff.2 (by have := H0.out; simp <;> omega)), hb⟩
    · go_wp2_with fail
      go_ret
      exact ⟨congrArg (fun b => Ending.returned (Value.bool b)) (Bool.eq_iff_iff.2 (by have := H0.out; simp <;> omega)), hb⟩

end Go.Proofs.YtlfcfaceeloedaaDoor
