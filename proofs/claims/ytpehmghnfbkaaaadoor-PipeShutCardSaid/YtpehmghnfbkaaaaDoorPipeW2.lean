/-
  The walks of package pipe: whether a channel is free, how many numbers it has.
-/
import Derived.Test.YtpehmghnfbkaaaaDoorPipeW1
namespace Go.Proofs.YtpehmghnfbkaaaaDoor
open Go.RowKit Go.Maps Pp

theorem RingL.drewN {w : World} {rb sb n : Nat} {l : List Int} (h : RingL eI w rb sb n l) (m : Nat) : RingL eI (w.drewN m) rb sb n l := by
  obtain ⟨row, f, h1, h2⟩ := h
  exact ⟨row, f, h1, h2.drewN m⟩
theorem pos_beq (n : Nat) : (decide (0 < (n : Int))) = decide (0 < n) := by simp

section
variable {w : World} {ρ : Nat → Role} {k cb rb sb : Nat} {v1 v2 : Value} {c : Ch}
set_option maxRecDepth 100000 in
set_option maxHeartbeats 3200000 in
theorem cfree_any (h : ChC w ρ k cb rb sb v1 v2 c) (what : Int) : Calls Tryd.prog 46 #[.pointer (some ⟨cb, 0, none⟩), .int .i64 what] w fun e w' =>
    e = .returned (.bool (c.free what)) ∧ ∃ n, w' = w.drewN n := by
  obtain ⟨size, nums, shut, sends, recvs⟩ := c
  obtain ⟨a1, k1, rfl, h11, h12⟩ := h.r1.slice
  obtain ⟨a2, k2, rfl, h21, h22⟩ := h.r2.slice
  have c0 := h.c0
  have c1 := h.c1
  have c2 := h.c2
  have c3 := h.c3
  have HL : Hid (∀ W : World, (∃ m, W = w.drewN m) → Calls Tryd.prog 41 #[.pointer (some ⟨rb, 0, none⟩)] W fun e w' => e = .returned (.int .i64 nums.length) ∧ ∃ n, w' = W.drewN n) :=
    Lib.hid fun W ⟨m, hW⟩ => by subst hW; exact (llenI (h.ring.drewN m)).mono fun _ _ ⟨e1, e2⟩ => ⟨e1, 0, e2 ▸ rfl⟩
  have HS : Hid (∀ W : World, (∃ m, W = w.drewN m) → Calls Tryd.prog 54 #[.pointer (some ⟨rb, 0, none⟩)] W fun e w' => e = .returned (.int .i64 (size : Nat)) ∧ ∃ n, w' = W.drewN n) :=
    Lib.hid fun W ⟨m, hW⟩ => by subst hW; exact (lsizeI (h.ring.drewN m)).mono fun _ _ ⟨e1, e2⟩ => ⟨e1, 0, e2 ▸ rfl⟩
  simp only at c1 c2 c3
  have HF : ∀ b, Ch.free ⟨size, nums, shut, sends, recvs⟩ what = b ↔ (shut || if what = 3 then (decide (0 < recvs.length) || decide (nums.length < size)) else (decide (0 < nums.length) || decide (0 < sends.length))) = b := fun b => Iff.rfl
  clear h
  obtain ⟨b, hb⟩ : ∃ b, Ch.free ⟨size, nums, shut, sends, recvs⟩ what = b := ⟨_, rfl⟩
  rw [hb]
  rw [HF] at hb
  clear HF
  generalize sends.length = n1 at *
  generalize recvs.length = n2 at *
  generalize nums.length = n3 at *
  cases shut with
  | true =>
    rw [Bool.true_or] at hb
    subst hb
    go_enter Tryd.func46, Tryd.ntmps46
    go_wp2_with fail
    go_ret
    exact ⟨rfl, 0, rfl⟩
  | false =>
    rw [Bool.false_or] at hb
    by_cases h3 : what = 3
    · rw [if_pos h3] at hb
      subst h3
      rcases Nat.eq_zero_or_pos n2 with rfl | hp
      · have d1 : decide (0 < (0 : Nat)) = false := by decide
        rw [d1, Bool.false_or] at hb
        subst hb
        go_enter Tryd.func46, Tryd.ntmps46
        go_wp2_with fail
        go_quiet (first | (go_at_call 41; exact Calls.quiet_of (HL.out _ ⟨_, rfl⟩)) | (go_at_call 54; exact Calls.quiet_of (HS.out _ ⟨_, rfl⟩)))
        go_wp2_with fail
        go_ret
        exact ⟨by simp, _, rfl⟩
      · have d1 : decide (0 < n2) = true := by rw [decide_eq_true_eq]; exact hp
        have d2 : decide (0 < (n2 : Int)) = true := by rw [decide_eq_true_eq]; omega
        rw [d1, Bool.true_or] at hb
        subst hb
        go_enter Tryd.func46, Tryd.ntmps46
        go_wp2_with fail
        go_quiet (first | (go_at_call 41; exact Calls.quiet_of (HL.out _ ⟨_, rfl⟩)) | (go_at_call 54; exact Calls.quiet_of (HS.out _ ⟨_, rfl⟩)))
        go_wp2_with fail
        go_ret
        exact ⟨by simp, _, rfl⟩
    · rw [if_neg h3] at hb
      have e0 : (what == 3) = false := by rw [beq_eq_false_iff_ne]; exact h3
      have HL1 := Lib.hid (HL.out w ⟨0, rfl⟩)
      clear HL
      rcases Nat.eq_zero_or_pos n3 with rfl | hp
      · have d1 : decide (0 < (0 : Nat)) = false := by decide
        rw [d1, Bool.false_or] at hb
        subst hb
        go_enter Tryd.func46, Tryd.ntmps46
        go_wp2_with fail
        refine HL1.out.mono ?_
        rintro e w' ⟨rfl, m, rfl⟩
        go_wp2_with fail
        go_ret
        exact ⟨by simp, _, rfl⟩
      · have hpi : 0 < (n3 : Int) := by omega
        have d1 : decide (0 < n3) = true := by rw [decide_eq_true_eq]; exact hp
        rw [d1, Bool.true_or] at hb
        subst hb
        go_enter Tryd.func46, Tryd.ntmps46
        go_wp2_with fail
        refine HL1.out.mono ?_
        rintro e w' ⟨rfl, m, rfl⟩
        go_wp2_with fail
        go_ret
        exact ⟨by simp, _, rfl⟩
end

section
variable {w : World} {ρ : Nat → Role} {pb : Nat} {vch : Value} {ptr : List Nat} {mb : Option Nat} {D : DataW Value} {N M : Nat} {s : St}
/-- The channel of a number that there is. -/
theorem PipesAt.chan (h : PipesAt w ρ pb vch ptr mb D N M s) {c : Int} (hc : may s.chs.length c = true) : (c = 0 ∧ chanP ptr c = none ∧ Pp.chan s.chs c = none) ∨
    ∃ (k cb rb sb : Nat) (v1 v2 : Value) (x : Ch), c = (k : Int) + 1 ∧ s.chs[k]? = some x ∧ ptr[k]? = some cb ∧ chanP ptr c = some ⟨cb, 0, none⟩ ∧ Pp.chan s.chs c = some x ∧ ChC w ρ k cb rb sb v1 v2 x := by
  unfold may at hc
  simp only [Bool.and_eq_true, decide_eq_true_eq] at hc
  by_cases h0 : c = 0
  · exact Or.inl ⟨h0, by simp [chanP, h0], by simp [Pp.chan, h0]⟩
  · obtain ⟨k, rfl⟩ : ∃ k : Nat, c = (k : Int) + 1 := ⟨(c - 1).toNat, by omega⟩
    have hk : k < s.chs.length := by omega
    have hk2 : k < ptr.length := by rw [h.len]; exact hk
    obtain ⟨rb, sb, v1, v2, h1⟩ := h.chs k _ _ (List.getElem?_eq_getElem hk2) (List.getElem?_eq_getElem hk)
    have e2 : (k : Int) + 1 - 1 = (k : Int) := by omega
    refine Or.inr ⟨k, _, rb, sb, v1, v2, _, rfl, List.getElem?_eq_getElem hk, List.getElem?_eq_getElem hk2, ?_, ?_, h1⟩
    · unfold chanP; rw [if_neg h0, e2, Int.toNat_natCast, List.getElem?_eq_getElem hk2]; rfl
    · unfold Pp.chan; rw [if_neg h0, e2, Int.toNat_natCast, List.getElem?_eq_getElem hk]
/-- How many numbers are in a channel, and what is wrong. -/
def lenV (s : St) (c : Int) : Int × Int := if may s.chs.length c = false then (0, 2) else (((((Pp.chan s.chs c).map fun x => x.nums.length).getD 0 : Nat) : Int), 0)
/-- An error. -/
def errV (n : Int) : Value := if n = 0 then .nilIface else .iface 35 (.int .i64 n)
set_option maxRecDepth 100000 in
set_option maxHeartbeats 3200000 in
theorem plen_any (h : PipesAt w ρ pb vch ptr mb D N M s) (c : Int) : Calls Tryd.prog 14 #[.pointer (some ⟨pb, 0, none⟩), .int .i64 c] w fun e w' =>
    e = .returned (.tuple #[.int .i64 (lenV s c).1, errV (lenV s c).2]) ∧ w = w' := by
  have HH := Lib.hid h
  cases hm : may s.chs.length c with
  | false =>
    have hv : lenV s c = (0, 2) := by unfold lenV; rw [if_pos hm]
    rw [hv]
    have HM := Lib.hid hm
    clear h hm hv
    go_enter Tryd.func14, Tryd.ntmps14
    go_wp2_with fail
    refine (may_any HH.out c).mono ?_
    rintro e w' ⟨rfl, rfl⟩
    rw [HM.out]
    go_wp2_with fail
    go_ret2
    exact ⟨rfl, rfl⟩
  | true =>
    have HM := Lib.hid hm
    have HC := h.chan hm
    have hv : lenV s c = (((((Pp.chan s.chs c).map fun x => x.nums.length).getD 0 : Nat) : Int), 0) := by unfold lenV; rw [if_neg (by rw [hm]; decide)]
    rw [hv]
    clear h hm hv
    rcases HC with ⟨rfl, _, h2⟩ | ⟨k, cb, rb, sb, v1, v2, x, rfl, _, _, h1, h2, hx⟩
    · rw [h2]
      clear h2
      go_enter Tryd.func14, Tryd.ntmps14
      go_wp2_with fail
      refine (may_any HH.out 0).mono ?_
      rintro e w' ⟨rfl, rfl⟩
      rw [HM.out]
      go_wp2_with fail
      go_ret2
      exact ⟨rfl, rfl⟩
    · rw [h2]
      have HX := Lib.hid hx
      have H1 := Lib.hid h1
      have c0 := hx.c0
      have e0 : (((k : Int) + 1) == 0) = false := by rw [beq_eq_false_iff_ne]; omega
      have e1 : ¬ ((k : Int) + 1 = 0) := by omega
      clear h2 h1 hx
      go_enter Tryd.func14, Tryd.ntmps14
      go_wp2_with fail
      refine (may_any HH.out _).mono ?_
      rintro e w' ⟨rfl, rfl⟩
      rw [HM.out]
      go_wp2_with fail
      refine (channel_any HH.out _ HM.out).mono ?_
      rintro e w' ⟨rfl, rfl⟩
      rw [H1.out]
      go_wp2_with fail
      refine (llenI HX.out.ring).mono ?_
      rintro e w' ⟨rfl, rfl⟩
      go_wp2_with fail
      go_ret2
      exact ⟨rfl, rfl⟩
end
end Go.Proofs.YtpehmghnfbkaaaaDoor
