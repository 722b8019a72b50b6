/-
  The reference's small functions of chapter 7: digits, letters.
-/
import Derived.Test.YthkfdhglgonmnaaGreatDoorLexW2
namespace Go.Proofs.YthkfdhglgonmnaaGreatDoor
open Go.RowKit Lx

set_option maxRecDepth 100000 in
set_option maxHeartbeats 800000 in
theorem rIsDigit_any (b : UInt8) (w : World) : Calls Tryz.prog 29 #[.int .u8 (b.toNat : Int)] w fun e w' => e = .returned (.bool (isDg b)) ∧ w = w' := by
  unfold isDg
  generalize b.toNat = x
  by_cases h1 : 48 ≤ x <;> by_cases h2 : x ≤ 57
  all_goals
    have g1 : (48 : Int) ≤ (x : Int) ↔ 48 ≤ x := by omega
    have g2 : (x : Int) ≤ 57 ↔ x ≤ 57 := by omega
    go_enter Tryz.func29, Tryz.ntmps29
    go_wp2_with fail
    go_ret
    exact ⟨by simp [*], rfl⟩

theorem digV_step2 (s : ByteArray) (k : Nat) (h : k < s.size) : digV (rs s k) = if isDg s[k] = true then digV (rs s (k + 1)) + 1 else 0 := by
  rw [rs_cons s k h]
  by_cases hd : isDg s[k] = true
  · rw [if_pos hd, digV_cons hd]
  · rw [if_neg hd, digV_no (by simpa using hd)]

set_option maxRecDepth 100000 in
set_option maxHeartbeats 1600000 in
theorem rDigits_any (s : ByteArray) (w : World) (hs : s.size ≤ 4000000) : Calls Tryz.prog 30 #[.string s] w fun e w' => e = .returned (.int .i64 (digV s.data.toList : Nat)) ∧ w = w' := by
  obtain ⟨R, hR⟩ : ∃ R, R = digV s.data.toList := ⟨_, rfl⟩
  rw [← hR]
  have HR : Hid (R = 0 + digV (rs s 0)) := Lib.hid (by rw [hR, Nat.zero_add]; unfold rs; rw [List.drop_zero])
  clear hR
  go_enter Tryz.func30, Tryz.ntmps30
  go_wp2_with fail
  go_loop [3] (fun i => ∃ k : Nat, k ≤ s.size ∧ i = .int .i64 k ∧ R = k + digV (rs s k)) (fun i => s.size - (intOf i).toNat)
  case atStart => exact ⟨0, Nat.zero_le _, rfl, HR.out⟩
  case round =>
    obtain ⟨k, hk, rfl, hr⟩ := hrel
    have H := Lib.hid hr
    clear hr
    by_cases hlt : k < s.size
    · have hst := digV_step2 s k hlt
      have hli : (k : Int) < (s.size : Int) := by omega
      have hii : (0 : Int) ≤ (k : Int) ∧ (k : Int) < (s.size : Int) := by omega
      have HDG := fun w => rIsDigit_any s[k] w
      by_cases hd : isDg s[k] = true
      · rw [hd] at HDG
        rw [if_pos hd] at hst
        have HST := Lib.hid hst
        clear hst hd
        go_wp2_with (go_at_call 29; refine (HDG _).mono ?_; rintro e w2 ⟨rfl, rfl⟩)
        go_round
        case rel =>
          refine ⟨k + 1, by omega, by go_num, ?_⟩
          have h1 := H.out
          have h2 := HST.out
          omega
        case measure => simp [intOf]; omega
      · rw [if_neg hd] at hst
        rw [Bool.eq_false_iff.2 hd] at HDG
        have HST := Lib.hid hst
        clear hst hd
        go_wp2_with (go_at_call 29; refine (HDG _).mono ?_; rintro e w2 ⟨rfl, rfl⟩)
        go_ret
        refine ⟨ret_int ?_, rfl⟩
        have h1 := H.out
        have h2 := HST.out
        omega
    · have hli : ¬ (k : Int) < (s.size : Int) := by omega
      go_wp2_with fail
      go_ret
      refine ⟨ret_int ?_, rfl⟩
      have h1 := H.out
      rw [rs_nil s k (by omega)] at h1
      have : digV [] = 0 := rfl
      omega

theorem alnV_ascii {b : UInt8} {r : B} (h : b.toNat < 128) : alnV (b :: r) = if isDg b || isAl b then 1 else 0 := by
  have e : letV (b :: r) = if isAl b then 1 else 0 := by simp only [letV]; rw [if_pos h]
  have e2 : alnV (b :: r) = if letV (b :: r) = 0 then (if isDg b then 1 else 0) else letV (b :: r) := rfl
  rw [e2, e]
  cases isAl b <;> cases isDg b <;> rfl

theorem alnV_high {b : UInt8} {r : B} (h : ¬ b.toNat < 128) : alnV (b :: r) = if (dec (b :: r)).2 = 1 then 0 else (dec (b :: r)).2 := by
  have e : letV (b :: r) = if (dec (b :: r)).2 = 1 then 0 else (dec (b :: r)).2 := by simp only [letV]; rw [if_neg h]
  have hnd : isDg b = false := by simp [isDg]; omega
  have hw := (dec_width (b :: r) (by simp)).1
  unfold alnV
  rw [e]
  generalize (dec (b :: r)).2 = z at *
  by_cases h1 : z = 1
  · simp [h1, hnd]
  · rw [if_neg h1, if_neg (by omega)]

theorem dec_rune {l : B} (h : l ≠ []) (hb : ¬ (l.getD 0 0).toNat < 128) : ((dec l).1 = 65533 ∧ (dec l).2 < 3) ↔ (dec l).2 = 1 := by
  have hl : 1 ≤ l.length := List.length_pos_iff.2 h
  have h0 := (l.getD 0 0).toNat_lt
  have h1 := (l.getD 1 0).toNat_lt
  unfold dec Lib.decodeN
  repeat' split
  all_goals first
    | (exact ⟨fun _ => rfl, fun _ => ⟨rfl, by decide⟩⟩)
    | (refine ⟨fun g => ?_, fun g => ?_⟩ <;> exfalso <;> simp only at g <;> omega)

set_option linter.unusedSimpArgs false in
set_option maxRecDepth 100000 in
set_option maxHeartbeats 6400000 in
theorem rLetters_any (s : ByteArray) (w : World) (hs : s.size ≤ 4000000) (hT : Tabs w) : Calls Tryz.prog 31 #[.string s] w fun e w' => e = .returned (.int .i64 (wordV s.data.toList : Nat)) ∧ Below w.heap.size w w' := by
  obtain ⟨R, hR⟩ : ∃ R, R = wordV s.data.toList := ⟨_, rfl⟩
  rw [← hR]
  have HR : Hid (R = 0 + wordV (rs s 0)) := Lib.hid (by rw [hR, Nat.zero_add]; unfold rs; rw [List.drop_zero])
  have HT := Lib.hid hT
  clear hR hT
  go_enter Tryz.func31, Tryz.ntmps31
  go_wp2_with fail
  go_loopw [3] (fun i wr => ∃ k : Nat, k ≤ s.size ∧ i = .int .i64 k ∧ R = k + wordV (rs s k) ∧ Below w.heap.size w wr) (fun i _ => s.size - (intOf i).toNat)
  case atStart => exact ⟨0, Nat.zero_le _, rfl, HR.out, Below.refl _ _⟩
  case round =>
    obtain ⟨k, hk, rfl, hr, hb⟩ := hrel
    have HTr := Lib.hid (HT.out.next hb)
    have H := Lib.hid hr
    clear hr
    by_cases hlt : k < s.size
    · have hc := rs_cons s k hlt
      have hle := alnV_le (rs s k)
      rw [rs_length] at hle
      have hx : s[k].toNat < 256 := s[k].toNat_lt
      have hli : (k : Int) < (s.size : Int) := by omega
      have hle2 : (k : Int) ≤ (s.size : Int) := by omega
      have hii : (0 : Int) ≤ (k : Int) ∧ (k : Int) < (s.size : Int) := by omega
      have HW : Hid (wordV (rs s k) = if alnV (rs s k) = 0 then 0 else alnV (rs s k) + wordV (rs s (k + alnV (rs s k)))) := Lib.hid (by rw [wordV_eq, rs_drop])
      by_cases hb8 : s[k].toNat < 128
      · have hbi : ¬ (128 : Int) ≤ (s[k].toNat : Int) := by omega
        have HA : Hid (alnV (rs s k) = if isDg s[k] || isAl s[k] then 1 else 0) := Lib.hid (by rw [hc]; exact alnV_ascii hb8)
        unfold isDg isAl at HA
        clear hc hle
        go_wp2_with fail
        all_goals first
          | (go_roundw
             case rel =>
               refine ⟨k + 1, by omega, by go_num, ?_, hb⟩
               have h1 := H.out
               have h2 := HW.out
               have h3 := HA.out
               simp only [Bool.or_eq_true, Bool.and_eq_true, decide_eq_true_eq, beq_iff_eq] at *
               rw [if_pos (by omega)] at h3
               rw [h3, if_neg (by decide)] at h2
               omega
             case measure => simp [intOf]; omega)
          | (go_ret
             refine ⟨ret_int ?_, hb⟩
             have h1 := H.out
             have h2 := HW.out
             have h3 := HA.out
             simp only [Bool.or_eq_true, Bool.and_eq_true, decide_eq_true_eq, beq_iff_eq] at *
             rw [if_neg (by omega)] at h3
             rw [if_pos h3] at h2
             omega)
      · have hbi : (128 : Int) ≤ (s[k].toNat : Int) := by omega
        have g48 : ¬ (s[k].toNat : Int) ≤ 57 := by omega
        have g95 : ¬ (s[k].toNat : Int) = 95 := by omega
        have g122 : ¬ (s[k].toNat : Int) ≤ 122 := by omega
        have g90 : ¬ (s[k].toNat : Int) ≤ 90 := by omega
        have l48 : (48 : Int) ≤ (s[k].toNat : Int) := by omega
        have l97 : (97 : Int) ≤ (s[k].toNat : Int) := by omega
        have l65 : (65 : Int) ≤ (s[k].toNat : Int) := by omega
        have hne : rs s k ≠ [] := by rw [hc]; simp
        have hdr := dec_rune hne (by rw [hc]; exact hb8)
        have hdw := dec_width _ hne
        rw [rs_length] at hdw
        have hdgo : Lib.decodeGo (s.extract k s.size) = dec (rs s k) := by
          rw [decodeGo_rs _ (by rw [extract_size _ _ (by omega)]; omega), rs_extract_all]
        have HC := Tryz.utf8_DecodeRuneInString (s.extract k s.size) wr HTr.out
        rw [hdgo] at HC
        have HA : Hid (alnV (rs s k) = if (dec (rs s k)).2 = 1 then 0 else (dec (rs s k)).2) := Lib.hid (by rw [hc]; exact alnV_high hb8)
        clear hc hle hdgo
        generalize dec (rs s k) = d at *
        obtain ⟨d1, d2⟩ := d
        simp only at hdr hdw HA HC
        have hC := Lib.hid HC
        clear HC
        by_cases h1 : d2 = 1
        · obtain ⟨r1, r2⟩ := hdr.2 h1
          subst h1
          subst r1
          clear hdr
          go_wp2_with (go_at_call 59; refine hC.out.mono ?_; rintro e w1 ⟨rfl, hb1⟩)
          go_ret
          refine ⟨ret_int ?_, hb.trans (hb1.mono hb.size)⟩
          have h1 := H.out
          have h2 := HW.out
          rw [HA.out] at h2
          simp at h2
          omega
        · have hor : ¬ ((d1 : Int) = 65533) ∨ ¬ ((d2 : Int) < 3) := by
            by_cases g : d1 = 65533
            · exact Or.inr (fun g2 => h1 (hdr.1 ⟨g, by omega⟩))
            · exact Or.inl (by omega)
          clear hdr
          rcases hor with g | g
          all_goals
            go_wp2_with (go_at_call 59; refine hC.out.mono ?_; rintro e w1 ⟨rfl, hb1⟩)
            all_goals
              go_roundw
              case rel =>
                refine ⟨k + d2, by omega, by go_num, ?_, hb.trans (hb1.mono hb.size)⟩
                have h3 := H.out
                have h2 := HW.out
                rw [HA.out, if_neg h1, if_neg (by omega)] at h2
                omega
              case measure => simp [intOf]; omega
    · have hli : ¬ (k : Int) < (s.size : Int) := by omega
      go_wp2_with fail
      go_ret
      refine ⟨ret_int ?_, hb⟩
      have h1 := H.out
      rw [rs_nil s k (by omega)] at h1
      have : wordV [] = 0 := rfl
      omega
end Go.Proofs.YthkfdhglgonmnaaGreatDoor
