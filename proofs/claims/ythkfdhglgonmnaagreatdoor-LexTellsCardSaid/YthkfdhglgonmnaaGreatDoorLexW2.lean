/-
  The walks of package lex, second part: words' ends, the language's own words, what may end a line.
-/
import Derived.Test.YthkfdhglgonmnaaGreatDoorLexW1
namespace Go.Proofs.YthkfdhglgonmnaaGreatDoor
open Go.RowKit Lx

theorem Tabs.lt {w : World} (h : Tabs w) : 4 < w.heap.size ∧ 5 < w.heap.size :=
  ⟨block_lt_of_cell (h.1 0 (by decide)), block_lt_of_cell (h.2 0 (by decide)).1⟩
theorem Tabs.below {w w' : World} {n : Nat} (h : Tabs w) (hb : Below n w w') (h1 : 4 < n) (h2 : 5 < n) : Tabs w' :=
  ⟨fun c hc => by rw [hb.cell (p := ⟨4, c, none⟩) h1]; exact h.1 c hc,
   fun i hi => ⟨by rw [hb.cell (p := ⟨5, 2 * i, none⟩) h2]; exact (h.2 i hi).1, by rw [hb.cell (p := ⟨5, 2 * i + 1, none⟩) h2]; exact (h.2 i hi).2⟩⟩
theorem Tabs.next {w w' : World} (h : Tabs w) (hb : Below w.heap.size w w') : Tabs w' := h.below hb h.lt.1 h.lt.2

set_option maxRecDepth 100000 in
set_option maxHeartbeats 1600000 in
theorem wordEnd_any (s : ByteArray) (a : Nat) (w : World) (hs : s.size ≤ 4000000) (ha : a ≤ s.size) (hT : Tabs w) :
    Calls Tryz.prog 97 #[.string s, .int .i64 a] w fun e w' => e = .returned (.int .i64 (a + wordV (rs s a) : Nat)) ∧ Below w.heap.size w w' := by
  obtain ⟨R, hR⟩ : ∃ R, R = a + wordV (rs s a) := ⟨_, rfl⟩
  rw [← hR]
  have HR := Lib.hid hR
  have HT := Lib.hid hT
  clear hR hT
  go_enter Tryz.func97, Tryz.ntmps97
  go_wp2_with fail
  go_loopw [1] (fun i wr => ∃ k : Nat, k ≤ s.size ∧ i = .int .i64 k ∧ R = k + wordV (rs s k) ∧ Below w.heap.size w wr) (fun i _ => s.size - (intOf i).toNat)
  case atStart => exact ⟨a, ha, rfl, HR.out, Below.refl _ _⟩
  case round =>
    obtain ⟨k, hk, rfl, hr, hb⟩ := hrel
    have HTr := Lib.hid (HT.out.next hb)
    have H := Lib.hid hr
    clear hr
    by_cases hlt : k < s.size
    · have hc := rs_cons s k hlt
      have hle := letV_le (rs s k)
      rw [rs_length] at hle
      have hli : (k : Int) < (s.size : Int) := by omega
      have hii : (0 : Int) ≤ (k : Int) ∧ (k : Int) < (s.size : Int) := by omega
      have LC : Hid (Calls Tryz.prog 65 #[.string s, .int .i64 k] wr fun e w' => e = .returned (.int .i64 (letV (rs s k))) ∧ Below wr.heap.size wr w') := Lib.hid (letter_any s k wr hs HTr.out)
      have HW : Hid (wordV (rs s k) = if alnV (rs s k) = 0 then 0 else alnV (rs s k) + wordV (rs s (k + alnV (rs s k)))) := Lib.hid (by rw [wordV_eq, rs_drop])
      by_cases h0 : letV (rs s k) = 0
      · have HA : Hid (alnV (rs s k) = if isDg s[k] then 1 else 0) := Lib.hid (by unfold alnV; rw [if_pos h0, hc])
        rw [h0] at LC
        clear hc h0 hle
        have HD := fun w => isDigit_any s[k] w
        by_cases hd : isDg s[k] = true
        · rw [hd] at HA HD
          go_wp2_with (first | (go_at_call 65; refine LC.out.mono ?_; rintro e w1 ⟨rfl, hb1⟩) | (go_at_call 63; refine (HD _).mono ?_; rintro e w2 ⟨rfl, rfl⟩))
          go_roundw
          case rel =>
            refine ⟨k + 1, by omega, by go_num, ?_, hb.trans (hb1.mono hb.size)⟩
            have h1 := H.out
            have h2 := HW.out
            rw [HA.out] at h2
            simp only [if_true] at h2
            rw [if_neg (by decide)] at h2
            omega
          case measure => simp [intOf]; omega
        · have hd' : isDg s[k] = false := by simpa using hd
          rw [hd'] at HA HD
          go_wp2_with (first | (go_at_call 65; refine LC.out.mono ?_; rintro e w1 ⟨rfl, hb1⟩) | (go_at_call 63; refine (HD _).mono ?_; rintro e w2 ⟨rfl, rfl⟩))
          go_ret
          refine ⟨ret_int ?_, hb.trans (hb1.mono hb.size)⟩
          have h1 := H.out
          have h2 := HW.out
          rw [HA.out] at h2
          simp at h2
          omega
      · have HA : Hid (alnV (rs s k) = letV (rs s k)) := Lib.hid (by unfold alnV; rw [if_neg h0])
        clear hc
        generalize letV (rs s k) = m at *
        have h0i : ¬ ((m : Int) = 0) := by omega
        go_wp2_with (go_at_call 65; refine LC.out.mono ?_; rintro e w1 ⟨rfl, hb1⟩)
        go_roundw
        case rel =>
          refine ⟨k + m, by omega, by go_num, ?_, hb.trans (hb1.mono hb.size)⟩
          have h1 := H.out
          have h2 := HW.out
          rw [HA.out, if_neg h0] at h2
          omega
        case measure => simp [intOf]; omega
    · have hli : ¬ (k : Int) < (s.size : Int) := by omega
      go_wp2_with fail
      go_ret
      refine ⟨ret_int ?_, hb⟩
      have h1 := H.out
      rw [rs_nil s k (by omega)] at h1
      have : wordV [] = 0 := rfl
      omega

theorem list_eq {s : ByteArray} {l : B} (h : s.toList = l) : s.data.toList = l := by rw [← Lib.toList_data]; exact h
theorem list_ne {s : ByteArray} {l : B} (h : (s.toList == l) = false) : s.data.toList ≠ l := by
  rw [← Lib.toList_data]; intro e; rw [e] at h; simp at h

set_option maxRecDepth 100000 in
set_option maxHeartbeats 3200000 in
theorem isKey_any (s : ByteArray) (w : World) : Calls Tryz.prog 13 #[.string s] w fun e w' => e = .returned (.bool (isKeyV s.data.toList)) ∧ w = w' := by
  rw [← Lib.toList_data]
  unfold isKeyV keysL
  go_enter Tryz.func13, Tryz.ntmps13
  go_wp2_with fail
  all_goals
    go_ret
    refine ⟨?_, rfl⟩
    first
      | (exfalso; simp_all; done)
      | (refine congrArg Ending.returned (congrArg Value.bool ?_); simp only [beq_iff_eq, beq_eq_false_iff_ne, ne_eq] at *; simp [*]; done)

/-- What may end a line, as a value's text tells it. -/
theorem mayV_no {k : Nat} {t : B} (h1 : k ≠ 1) (h2 : k ≠ 2) (h3 : k ≠ 3) (h4 : k ≠ 4) : mayV k t = false := by
  simp [mayV, h1, h2, h3, h4]

set_option maxRecDepth 100000 in
set_option maxHeartbeats 3200000 in
theorem mayEnd_any (k : Nat) (s : ByteArray) (a : Nat) (w : World) : Calls Tryz.prog 68 #[.agg #[.int .i64 k, .string s, .int .i64 a]] w fun e w' => e = .returned (.bool (mayV k s.data.toList)) ∧ Below w.heap.size w w' := by
  rw [← Lib.toList_data]
  obtain ⟨r, hr⟩ : ∃ r, r = mayV k s.toList := ⟨_, rfl⟩
  rw [← hr]
  unfold mayV endsL at hr
  have E := Lib.hid hr
  clear hr
  have i1 : ((k : Int) = 1) ↔ k = 1 := by omega
  have i2 : ((k : Int) = 2) ↔ k = 2 := by omega
  have i3 : ((k : Int) = 3) ↔ k = 3 := by omega
  have i4 : ((k : Int) = 4) ↔ k = 4 := by omega
  go_enter Tryz.func68, Tryz.ntmps68
  go_wp2_with fail
  all_goals
    go_ret
    refine ⟨?_, (Below.refl _ _).alloc (Nat.le_refl _) _⟩
    first
      | (exfalso; simp_all; done)
      | (refine congrArg Ending.returned (congrArg Value.bool ?_); rw [E.out]; simp [*]; done)
      | (refine congrArg Ending.returned (congrArg Value.bool ?_); rw [E.out]; simp_all; done)
end Go.Proofs.YthkfdhglgonmnaaGreatDoor
