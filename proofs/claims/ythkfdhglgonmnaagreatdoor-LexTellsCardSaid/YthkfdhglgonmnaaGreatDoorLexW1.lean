/-
  The walks of package lex, first part: digits, letters, words' ends.
-/
import Derived.Test.YthkfdhglgonmnaaGreatDoorLexM2
import Derived.Test.YthkfdhglgonmnaaGreatDoorKeeps
import Derived.Test.YthkfdhglgonmnaaGreatDoorShelf
import Derived.WalkKit
import Derived.WalkSpells
import Derived.WalkLawsBesides
import Derived.Lib.Hide
import Derived.IntWalk
import Derived.Deep.QuietTactic
import Derived.BigQuiet
import Derived.RegionTactic
namespace Go.Proofs.YthkfdhglgonmnaaGreatDoor
open Go.RowKit Lx

/-- What stands from place a on. -/
def rs (s : ByteArray) (a : Nat) : B := s.data.toList.drop a
theorem rs_length (s : ByteArray) (a : Nat) : (rs s a).length = s.size - a := by simp [rs]
theorem rs_drop (s : ByteArray) (a n : Nat) : (rs s a).drop n = rs s (a + n) := by simp [rs, List.drop_drop]
theorem rs_nil (s : ByteArray) (a : Nat) (h : s.size ≤ a) : rs s a = [] := List.drop_eq_nil_of_le (by simpa using h)
theorem rs_cons (s : ByteArray) (a : Nat) (h : a < s.size) : rs s a = s[a] :: rs s (a + 1) := by
  have hd : a < s.data.toList.length := by simpa using h
  unfold rs
  rw [List.drop_eq_getElem_cons hd]
  rfl
theorem rs_extract (s : ByteArray) (a b : Nat) : (s.extract a b).data.toList = (rs s a).take (b - a) := by
  unfold rs
  rw [ByteArray.data_extract, Array.toList_extract, List.extract_eq_take_drop]
theorem rs_extract_all (s : ByteArray) (a : Nat) : (s.extract a s.size).data.toList = rs s a := by
  rw [rs_extract, ← rs_length, List.take_length]
theorem extract_size (s : ByteArray) (a : Nat) (h : a ≤ s.size) : (s.extract a s.size).size = s.size - a := by
  rw [ByteArray.size_extract]; omega

theorem ret_int {a b : Int} (h : a = b) : Ending.returned (.int .i64 a) = .returned (.int .i64 b) := by rw [h]
set_option maxRecDepth 100000 in
set_option maxHeartbeats 800000 in
theorem isDigit_any (b : UInt8) (w : World) : Calls Tryz.prog 63 #[.int .u8 (b.toNat : Int)] w fun e w' => e = .returned (.bool (isDg b)) ∧ w = w' := by
  unfold isDg
  generalize b.toNat = x
  by_cases h1 : 48 ≤ x <;> by_cases h2 : x ≤ 57
  all_goals
    have g1 : (48 : Int) ≤ (x : Int) ↔ 48 ≤ x := by omega
    have g2 : (x : Int) ≤ 57 ↔ x ≤ 57 := by omega
    go_enter Tryz.func63, Tryz.ntmps63
    go_wp2_with fail
    go_ret
    exact ⟨by simp [*], rfl⟩

/-- The decoder's two tables. -/
abbrev Tabs (w : World) : Prop := Lib.Utf8Tabs 4 5 w

theorem get!_lt (s : ByteArray) (k : Nat) (h : k < s.size) : s.get! k = (rs s k).getD 0 0 := by
  rw [rs_cons s k h]
  cases s with | mk d => exact getElem!_pos d k h
theorem get!_ge (s : ByteArray) (k : Nat) (h : s.size ≤ k) : s.get! k = 0 := by
  cases s with
  | mk d =>
    show d[k]! = 0
    rw [getElem!_neg d k (by intro g; have : k < d.size := g; have : d.size ≤ k := h; omega)]
    rfl
theorem decodeGo_rs (s : ByteArray) (h : 0 < s.size) : Lib.decodeGo s = dec s.data.toList := by
  have hl : s.data.toList.length = s.size := by simp
  have e : ∀ k, s.get! k = s.data.toList.getD k 0 := fun k => by
    by_cases hk : k < s.size
    · rw [get!_lt s k hk]
      unfold rs
      rw [List.getD_eq_getElem?_getD, List.getD_eq_getElem?_getD, List.getElem?_drop, Nat.add_zero]
    · rw [get!_ge s k (by omega), List.getD_eq_getElem?_getD, List.getElem?_eq_none (by omega)]; rfl
  unfold Lib.decodeGo dec
  rw [if_neg (by omega), Lib.decode_at, e, e, e, e, hl, Nat.sub_zero, Nat.zero_add, Nat.zero_add, Nat.zero_add]

set_option maxRecDepth 100000 in
set_option maxHeartbeats 1600000 in
theorem letter_any (s : ByteArray) (a : Nat) (w : World) (_hs : s.size ≤ 4000000) (hT : Tabs w) :
    Calls Tryz.prog 65 #[.string s, .int .i64 a] w fun e w' => e = .returned (.int .i64 (letV (rs s a))) ∧ Below w.heap.size w w' := by
  by_cases h : a < s.size
  · have hc := rs_cons s a h
    have hx : s[a].toNat < 256 := s[a].toNat_lt
    have hlt : ¬ ((s.size : Int) ≤ (a : Int)) := by omega
    have hi : (0 : Int) ≤ (a : Int) ∧ (a : Int) < (s.size : Int) := by omega
    have hi2 : (a : Int) ≤ (s.size : Int) := by omega
    by_cases hb : s[a].toNat < 128
    · have hbi : (s[a].toNat : Int) < 128 := by omega
      obtain ⟨r, hr⟩ : ∃ r, r = letV (rs s a) := ⟨_, rfl⟩
      have e : r = if isAl s[a] then 1 else 0 := by rw [hr, hc]; simp only [letV, if_pos hb]
      rw [← hr]
      unfold isAl at e
      have E := Lib.hid e
      clear hr hc e
      go_enter Tryz.func65, Tryz.ntmps65
      go_wp2_with fail
      all_goals
        go_ret
        refine ⟨ret_int ?_, Below.refl _ _⟩
        rw [E.out]
        simp only [Bool.or_eq_true, Bool.and_eq_true, decide_eq_true_eq, beq_iff_eq] at *
        split <;> omega
    · have hbi : ¬ ((s[a].toNat : Int) < 128) := by omega
      obtain ⟨r, hr⟩ : ∃ r, r = letV (rs s a) := ⟨_, rfl⟩
      have e : r = if (dec (rs s a)).2 = 1 then 0 else (dec (rs s a)).2 := by
        rw [hr, hc]; simp only [letV, if_neg hb]
      have hd : Lib.decodeGo (s.extract a s.size) = dec (rs s a) := by
        rw [decodeGo_rs _ (by rw [extract_size _ _ (by omega)]; omega), rs_extract_all]
      have HC := Tryz.utf8_DecodeRuneInString (s.extract a s.size) w hT
      rw [hd] at HC
      rw [← hr]
      clear hr hc hd
      generalize dec (rs s a) = d at *
      obtain ⟨d1, d2⟩ := d
      have hC := Lib.hid HC
      clear HC hT
      by_cases h1 : d2 = 1
      · subst h1
        simp only [if_pos] at e
        subst e
        go_enter Tryz.func65, Tryz.ntmps65
        go_wp2_with (go_at_call 59; refine hC.out.mono ?_; rintro e w1 ⟨rfl, hb1⟩)
        go_ret
        exact ⟨rfl, hb1⟩
      · have h1i : ¬ ((d2 : Int) = 1) := by omega
        simp only [if_neg h1] at e
        subst e
        go_enter Tryz.func65, Tryz.ntmps65
        go_wp2_with (go_at_call 59; refine hC.out.mono ?_; rintro e w1 ⟨rfl, hb1⟩)
        go_ret
        exact ⟨rfl, hb1⟩
  · rw [rs_nil s a (by omega)]
    have hlt : (s.size : Int) ≤ (a : Int) := by omega
    go_enter Tryz.func65, Tryz.ntmps65
    go_wp2_with fail
    go_ret
    exact ⟨rfl, Below.refl _ _⟩
end Go.Proofs.YthkfdhglgonmnaaGreatDoor
