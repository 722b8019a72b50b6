/-
  The walks of package pipe: may, channel, row, a channel's free, drawn.
-/
import Derived.Test.YtpehmghnfbkaaaaDoorPipeAt
import Derived.BigQuiet
import Derived.Deep.QuietTactic
namespace Go.Proofs.YtpehmghnfbkaaaaDoor
open Go.RowKit Go.Maps Pp

theorem ptr_row {w : World} {vch : Value} {ptr : List Nat} (h : w.ownsRow 0 76 1 vch ptr.length (ptr.map fun b => .pointer (some ⟨b, 0, none⟩))) :
    ∃ ao cap, vch = .slice ao ptr.length cap ∧ ptr.length ≤ cap ∧ cap ≤ maxLen ∧ (0 < ptr.length → ∃ g, ao = some ⟨g, 0, none⟩ ∧ ∀ (k b : Nat), ptr[k]? = some b → w.cell? ⟨g, k, none⟩ = some (.pointer (some ⟨b, 0, none⟩))) := by
  have hc := h
  rcases h.2 with ⟨rfl, h0⟩ | ⟨g, cap, cur, rfl, hb, hg, h3, h4, h5, h6⟩
  · exact ⟨none, 0, by rw [h0], by omega, Nat.zero_le _, fun h => by omega⟩
  · refine ⟨_, _, rfl, h3, h4, fun _ => ⟨g, rfl, fun k b hk => ?_⟩⟩
    have := World.ownsRow.cells hc (g := g) rfl k (.pointer (some ⟨b, 0, none⟩)) (by rw [List.getElem?_map, hk]; rfl)
    have ha : (⟨g, 0, none⟩ : Addr).add k = ⟨g, k, none⟩ := by unfold Addr.add; split <;> simp_all
    rw [ha] at this
    exact this

section
variable {w : World} {ρ : Nat → Role} {pb : Nat} {vch : Value} {ptr : List Nat} {mb : Option Nat} {D : DataW Value} {N M : Nat} {s : St}

set_option maxRecDepth 100000 in
set_option maxHeartbeats 1600000 in
theorem may_any (h : PipesAt w ρ pb vch ptr mb D N M s) (c : Int) : Calls Tryd.prog 38 #[.pointer (some ⟨pb, 0, none⟩), .int .i64 c] w fun e w' =>
    e = .returned (.bool (may s.chs.length c)) ∧ w = w' := by
  obtain ⟨ao, cap, rfl, h1, h2, -⟩ := ptr_row h.row
  have c0 := h.c0
  rw [h.len] at c0
  unfold may
  clear h h1
  generalize s.chs.length = m at *
  by_cases h0 : 0 ≤ c
  · have d0 : decide (0 ≤ c) = true := by rw [decide_eq_true_eq]; exact h0
    go_enter Tryd.func38, Tryd.ntmps38
    go_wp2_with fail
    go_ret
    first | exact ⟨rfl, rfl⟩ | exact ⟨by rw [d0]; rfl, rfl⟩
  · have d0 : decide (0 ≤ c) = false := by rw [decide_eq_false_iff_not]; exact h0
    go_enter Tryd.func38, Tryd.ntmps38
    go_wp2_with fail
    go_ret
    first | exact ⟨rfl, rfl⟩ | exact ⟨by rw [d0]; rfl, rfl⟩

/-- Where the channel of a number lies. -/
def chanP (ptr : List Nat) (c : Int) : Option Addr := if c = 0 then none else (ptr[(c - 1).toNat]?).map fun b => ⟨b, 0, none⟩
set_option maxRecDepth 100000 in
set_option maxHeartbeats 1600000 in
theorem channel_any (h : PipesAt w ρ pb vch ptr mb D N M s) (c : Int) (hc : may s.chs.length c = true) : Calls Tryd.prog 39 #[.pointer (some ⟨pb, 0, none⟩), .int .i64 c] w fun e w' =>
    e = .returned (.pointer (chanP ptr c)) ∧ w = w' := by
  obtain ⟨ao, cap, rfl, h1, h2, h3⟩ := ptr_row h.row
  have c0 := h.c0
  have hl := h.len
  have hm := h.many
  unfold may at hc
  simp only [Bool.and_eq_true, decide_eq_true_eq] at hc
  clear h
  by_cases h0 : c = 0
  · subst h0
    clear h3 hl hm hc
    go_enter Tryd.func39, Tryd.ntmps39
    go_wp2_with fail
    go_ret
    exact ⟨rfl, rfl⟩
  · obtain ⟨k, rfl⟩ : ∃ k : Nat, c = (k : Int) + 1 := ⟨(c - 1).toNat, by omega⟩
    have hk : k < ptr.length := by omega
    obtain ⟨g, rfl, h4⟩ := h3 (by omega)
    have h5 := h4 k _ (List.getElem?_eq_getElem hk)
    have e0 : (((k : Int) + 1) == 0) = false := by rw [beq_eq_false_iff_ne]; exact h0
    have e1 : wrap64 (k : Int) = (k : Int) := by unfold wrap64; omega
    have e2 : (k : Int) + 1 - 1 = (k : Int) := by omega
    have hr : chanP ptr ((k : Int) + 1) = some ⟨ptr[k], 0, none⟩ := by
      unfold chanP
      rw [if_neg h0, e2, Int.toNat_natCast, List.getElem?_eq_getElem hk]; rfl
    rw [hr]
    have hki : (0 : Int) ≤ (k : Int) ∧ (k : Int) < (ptr.length : Int) := by omega
    clear h4 hl hm hc h3 hr
    generalize ptr[k] = cb at *
    generalize ptr.length = n at *
    go_enter Tryd.func39, Tryd.ntmps39
    go_wp2_with fail
    go_ret
    exact ⟨rfl, rfl⟩

set_option maxRecDepth 100000 in
set_option maxHeartbeats 1600000 in
theorem row_any (w : World) (cb : Nat) (what : Int) : Calls Tryd.prog 50 #[.pointer (some ⟨cb, 0, none⟩), .int .i64 what] w fun e w' =>
    e = .returned (.pointer (some ⟨cb, if what = 3 then 2 else 3, none⟩)) ∧ w = w' := by
  by_cases h3 : what = 3
  · subst h3
    go_enter Tryd.func50, Tryd.ntmps50
    go_wp2_with fail
    go_ret
    exact ⟨rfl, rfl⟩
  · rw [if_neg h3]
    have e0 : (what == 3) = false := by rw [beq_eq_false_iff_ne]; exact h3
    go_enter Tryd.func50, Tryd.ntmps50
    go_wp2_with fail
    go_ret
    exact ⟨rfl, rfl⟩

set_option maxRecDepth 100000 in
set_option maxHeartbeats 1600000 in
theorem drawn_any (w : World) (draw : Int) (m : Nat) (hm : 0 < m) (hd : -9223372036854775808 ≤ draw ∧ draw ≤ 9223372036854775807) (h64 : m ≤ 64) : Calls Tryd.prog 35 #[.int .i64 draw, .int .i64 (m : Nat)] w fun e w' =>
    e = .returned (.int .i64 (drawn draw m : Nat)) ∧ w = w' := by
  have hr : ((drawn draw m : Nat) : Int) = draw % (m : Int) := by unfold drawn; exact Int.toNat_of_nonneg (Int.emod_nonneg _ (by omega))
  rw [hr]
  have e0 : ((m : Int) == 0) = false := by rw [beq_eq_false_iff_ne]; omega
  have e1 : ¬ ((m : Int) = 0) := by omega
  have hlt : draw % (m : Int) < m := Int.emod_lt_of_pos _ (by omega)
  have hge : 0 ≤ draw % (m : Int) := Int.emod_nonneg _ (by omega)
  have ht : draw.tmod (m : Int) = if draw < 0 ∧ draw % (m : Int) ≠ 0 then draw % (m : Int) - m else draw % (m : Int) := by
    rw [Int.tmod_eq_emod]
    split <;> split <;> simp_all [Int.dvd_iff_emod_eq_zero] <;> omega
  generalize draw % (m : Int) = r at *
  by_cases hn : draw < 0 ∧ r ≠ 0
  · rw [if_pos hn] at ht
    have e2 : IntKind.i64.wrap (r - m + m) = r := by rw [IntKind.wrap_i64]; omega
    have e3 : r - m < 0 := by omega
    go_enter Tryd.func35, Tryd.ntmps35
    go_wp2_with fail
    go_ret
    exact ⟨rfl, rfl⟩
  · rw [if_neg hn] at ht
    have e3 : ¬ (r < 0) := by omega
    go_enter Tryd.func35, Tryd.ntmps35
    go_wp2_with fail
    go_ret
    exact ⟨rfl, rfl⟩
end
end Go.Proofs.YtpehmghnfbkaaaaDoor
