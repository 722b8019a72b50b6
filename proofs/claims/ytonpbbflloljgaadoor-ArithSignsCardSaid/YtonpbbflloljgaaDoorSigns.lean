/-
  The table of signs of package arith, as it is laid; Sign, written, Two, One, Kinds.
-/
import Derived.Test.YtonpbbflloljgaaDoorTabS
import Derived.Test.YtonpbbflloljgaaDoorArithW
namespace Go.Proofs.YtonpbbflloljgaaDoor
open Go.RowKit

def signsL : List (List UInt8) := [[], [43], [45], [42], [47], [37], [38], [124], [94], [60, 60], [62, 62], [60], [60, 61], [62], [62, 61], [61, 61], [33, 61], [45], [94], [33]]
/-- How an op is written, of 0 to 19. -/
def signL (n : Nat) : List UInt8 := signsL.getD n []
def Signs (w : World) : Prop := ∀ n : Nat, n < 20 → w.cell? ⟨0, n, none⟩ = some (.string ⟨(signL n).toArray⟩)
theorem gSigns : Tryd.prog.globalNamed "sluiceway/arith.signs" = some 0 := by kernel_rfl
theorem tSigns : (Tryd.prog.globals[0]?).map (·.type) = some 38 := by kernel_rfl
theorem cells_string : Tryd.prog.cellsOf 9 = 1 := by kernel_rfl
theorem cells_signs : Tryd.prog.cellsOf 38 = 20 := by kernel_rfl
/-- How any number is written as an op. -/
def signV (op : Int) : List UInt8 := if 1 ≤ op ∧ op ≤ 19 then signL op.toNat else []

theorem sign_any (op : Int) (w : World) (hS : Signs w) :
    Calls Tryd.prog 12 #[.int .i64 op] w fun e w' => e = .returned (.string ⟨(signV op).toArray⟩) ∧ w = w' := by
  by_cases h : 1 ≤ op ∧ op ≤ 19
  · obtain ⟨n, rfl⟩ := Int.eq_ofNat_of_zero_le (show 0 ≤ op by omega)
    have hc := hS n (by omega)
    have e : signV (n : Int) = signL n := by unfold signV; rw [if_pos h]; rfl
    rw [e]
    have h1 : decide ((n : Int) < 1) = false := by simpa using h.1
    have h2 : decide (19 < (n : Int)) = false := by simpa using h.2
    have h3 : (n : Int) < 20 := by omega
    have h4 : 0 ≤ (n : Int) := by omega
    clear e h hS
    go_enter Tryd.func12, Tryd.ntmps12
    go_wp2_with fail
    go_ret
    exact ⟨rfl, rfl⟩
  · have e : signV op = [] := by unfold signV; rw [if_neg h]
    rw [e]
    clear e hS
    go_enter Tryd.func12, Tryd.ntmps12
    go_wp2_with fail
    all_goals
      go_ret
      exact ⟨rfl, rfl⟩

/-- The first of n ops from a on that is written so (0: none is). -/
def writV (l : List UInt8) : Nat → Nat → Nat
  | 0, _ => 0
  | n + 1, a => if l = signL a then a else writV l n (a + 1)

theorem writV_yes {l : List UInt8} {n a : Nat} (h : l = signL a) : writV l (n + 1) a = a := by unfold writV; rw [if_pos h]
theorem writV_no {l : List UInt8} {n a : Nat} (h : l ≠ signL a) : writV l (n + 1) a = writV l n (a + 1) := by
  conv => lhs; unfold writV
  rw [if_neg h]

set_option maxHeartbeats 400000 in
theorem written_any (s : ByteArray) (a b : Nat) (w : World) (hb : b < 20) (hS : Signs w) :
    Calls Tryd.prog 24 #[.string s, .int .i64 a, .int .i64 b] w fun e w' => e = .returned (.int .i64 (writV s.toList (b + 1 - a) a : Nat)) ∧ w = w' := by
  obtain ⟨R, hR⟩ : ∃ R : Nat, R = writV s.toList (b + 1 - a) a := ⟨_, rfl⟩
  rw [← hR]
  have HR := Lib.hid hR
  clear hR
  go_enter Tryd.func24, Tryd.ntmps24
  go_wp2_with fail
  go_loop [7] (fun i => ∃ k : Nat, a ≤ k ∧ i = .int .i64 k ∧ R = writV s.toList (b + 1 - k) k) (fun i => b + 1 - (intOf i).toNat)
  case atStart => exact ⟨a, Nat.le_refl _, rfl, HR.out⟩
  case round =>
    obtain ⟨k, hk, rfl, hw⟩ := hrel
    have H := Lib.hid hw
    clear hw
    by_cases hlt : k ≤ b
    · have hc := hS k (by omega)
      have h3 : (k : Int) < 20 := by omega
      have HS := Lib.hid hS
      clear hS
      go_wp2_with fail
      · have hh : (signL k == s.toList) = true := by assumption
        go_ret
        refine ⟨ret_i64 ?_, rfl⟩
        have := H.out
        rw [show b + 1 - k = (b - k) + 1 by omega, writV_yes (LawfulBEq.eq_of_beq hh).symm] at this
        rw [this]
      · have hh : (signL k == s.toList) = false := by assumption
        go_round
        case rel =>
          refine ⟨k + 1, by omega, by go_num, ?_⟩
          have := H.out
          rw [show b + 1 - k = (b - k) + 1 by omega, writV_no (fun e => by rw [e] at hh; simp at hh)] at this
          rw [this]; congr 1; omega
        case measure => simp [intOf]; omega
    · go_wp2_with fail
      go_ret
      refine ⟨ret_i64 ?_, rfl⟩
      have := H.out
      rw [this, show b + 1 - k = 0 by omega]; rfl

theorem two_any (s : ByteArray) (w : World) (hS : Signs w) :
    Calls Tryd.prog 14 #[.string s] w fun e w' => e = .returned (.int .i64 (writV s.toList 16 1 : Nat)) ∧ w = w' := by
  have HS := Lib.hid hS
  clear hS
  go_enter Tryd.func14, Tryd.ntmps14
  go_wp2_with (go_at_call 24; refine (written_any s 1 16 _ (by decide) HS.out).mono ?_; rintro e w1 ⟨rfl, rfl⟩)
  go_ret
  exact ⟨rfl, rfl⟩
theorem one_any (s : ByteArray) (w : World) (hS : Signs w) :
    Calls Tryd.prog 16 #[.string s] w fun e w' => e = .returned (.int .i64 (writV s.toList 3 17 : Nat)) ∧ w = w' := by
  have HS := Lib.hid hS
  clear hS
  go_enter Tryd.func16, Tryd.ntmps16
  go_wp2_with (go_at_call 24; refine (written_any s 17 19 _ (by decide) HS.out).mono ?_; rintro e w1 ⟨rfl, rfl⟩)
  go_ret
  exact ⟨rfl, rfl⟩

def takesV (op : Int) : Int := if 1 ≤ op ∧ op ≤ 18 then 1 else if op = 19 then 2 else 0
def makesV (op : Int) : Int := if 1 ≤ op ∧ op ≤ 10 ∨ op = 17 ∨ op = 18 then 1 else if 11 ≤ op ∧ op ≤ 16 ∨ op = 19 then 2 else 0
set_option maxHeartbeats 400000 in
theorem kinds_any (op : Int) (w : World) :
    Calls Tryd.prog 11 #[.int .i64 op] w fun e w' => e = .returned (.tuple #[.int .i64 (takesV op), .int .i64 (makesV op)]) ∧ w = w' := by
  go_enter Tryd.func11, Tryd.ntmps11
  go_wp2_with fail
  all_goals
    go_ret2
    refine ⟨congrArg Ending.returned (congrArg Value.tuple ?_), rfl⟩
    simp only [beq_iff_eq, beq_eq_false_iff_ne, ne_eq] at *
    have e1 : ∀ {x y : Int}, takesV op = x → makesV op = y → #[Value.int .i64 x, Value.int .i64 y] = #[Value.int .i64 (takesV op), Value.int .i64 (makesV op)] := fun h1 h2 => by rw [h1, h2]
    refine e1 ?_ ?_
    · unfold takesV; (repeat' split) <;> omega
    · unfold makesV; (repeat' split) <;> omega
end Go.Proofs.YtonpbbflloljgaaDoor
