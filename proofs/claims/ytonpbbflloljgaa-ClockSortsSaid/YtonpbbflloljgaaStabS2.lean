/-
  The walks of slices' stable sort, fourth part: merging in place, where the right side is a single number.
-/
import Derived.Test.YtonpbbflloljgaaStabS
namespace Go.Proofs.Ytonpbbflloljgaa
open Go.RowKit

set_option maxHeartbeats 3200000 in
set_option maxRecDepth 100000 in
theorem symMerge_right (bl N cap bb lb lo c n : Nat) (key : Nat → Int) (f : Nat → Nat) (a m : Nat) (w : World) (hN : N ≤ 200) (hd : Dat bl N bb lb lo c n key f w) (ham : a + 1 < m) (hb : m + 1 ≤ N) (h2 : Two2 key a m (m + 1) f) :
    Calls Try.prog 37 #[.slice (some ⟨bl, 0, none⟩) N cap, .int .i64 (a : Int), .int .i64 (m : Int), .int .i64 ((m + 1 : Nat) : Int), cmpF bb] w (MadeS bl N bb lb lo c n key a (m + 1) f w) := by
  have HD := Lib.hid hd
  have H2 := Lib.hid h2
  clear hd h2
  generalize hM : ((m + 1 : Nat) : Int) = M
  have s1 : M - (m : Int) = 1 := by omega
  have s0 : ((m : Int) - (a : Int) == 1) = false := by rw [beq_eq_false_iff_ne]; omega
  clear hM
  go_enter Try.func37, Try.ntmps37
  go_wp2_with fail
  go_loopw [14, 15] (fun p q wr => ∃ i j : Nat, a ≤ i ∧ i ≤ j ∧ j ≤ m ∧ p = .int .i64 (i : Int) ∧ q = .int .i64 (j : Int) ∧ (∀ k, a ≤ k → k < i → St.R key (f k) (f m)) ∧ (∀ k, j ≤ k → k < m → St.R key (f m) (f k)) ∧ Dat bl N bb lb lo c n key f wr ∧ Keeps (Ro bl) w wr) (fun p q _ => (intOf q).toNat - (intOf p).toNat)
  case atStart => exact ⟨a, m, Nat.le_refl _, by omega, Nat.le_refl _, rfl, rfl, fun k h1 h2 => by omega, fun k h1 h2 => by omega, HD.out, Keeps.refl _ _⟩
  case round =>
    obtain ⟨i, j, hi, hij, hj, rfl, rfl, hlo, hup, hD, hK⟩ := hrel
    have HL := Lib.hid hlo
    have HU := Lib.hid hup
    have HD1 := Lib.hid hD
    have HK := Lib.hid hK
    clear hlo hup hD hK
    by_cases hlt : i < j
    · obtain ⟨h, hh⟩ : ∃ h, h = (i + j) / 2 := ⟨_, rfl⟩
      have h1 : i ≤ h := by omega
      have h2 : h < j := by omega
      have eh : ((i : Int) + (j : Int)) / 2 = (h : Int) := by omega
      have e1 : 0 ≤ (h : Int) := by omega
      have e2 : (h : Int) < (N : Int) := by omega
      have e3 : (m : Int) < (N : Int) := by omega
      have e4 : 0 ≤ (m : Int) := by omega
      obtain ⟨c1, _⟩ := HD1.out.row h (by omega)
      obtain ⟨c2, _⟩ := HD1.out.row m (by omega)
      have hC := Lib.hid fun t => cmp_at HD1.out m h t (by omega) (by omega)
      by_cases hl : key (f m) < key (f h)
      · have t1 : decide (cmpV (key (f m)) (key (f h)) < 0) = true := by rw [cmpV_neg, decide_eq_true hl]
        have HU' : Hid (∀ k, h ≤ k → k < m → St.R key (f m) (f k)) := Lib.hid fun k k1 k2 => by
          by_cases e : k = h
          · rw [e]; exact St.R.lt hl
          · exact St.R.trans (St.R.lt hl) (H2.out.l h k (by omega) (by omega) k2)
        clear hl hh
        generalize cmpV (key (f m)) (key (f h)) = V at hC t1
        go_wp2_with fail
        go_quiet ((go_at_call 9; exact hC.out _))
        go_wp2_with fail
        go_roundw
        case rel => exact ⟨i, h, hi, h1, by omega, rfl, rfl, HL.out, HU'.out, HD1.out.drewN _, HK.out.trans (keeps_d bl _ _)⟩
        case measure => simp [intOf]; omega
      · have t1 : decide (cmpV (key (f m)) (key (f h)) < 0) = false := by rw [cmpV_neg, decide_eq_false hl]
        have HL' : Hid (∀ k, a ≤ k → k < h + 1 → St.R key (f k) (f m)) := Lib.hid fun k k1 k2 => by
          have h0 : St.R key (f h) (f m) := St.R.of_not hl (H2.out.ids h m (by omega) (by omega) (Nat.le_refl _) (by omega))
          by_cases e : k = h
          · rw [e]; exact h0
          · exact St.R.trans (H2.out.l k h k1 (by omega) (by omega)) h0
        clear hl hh
        generalize cmpV (key (f m)) (key (f h)) = V at hC t1
        go_wp2_with fail
        go_quiet ((go_at_call 9; exact hC.out _))
        go_wp2_with fail
        go_roundw
        case rel => exact ⟨h + 1, j, by omega, by omega, hj, by go_num, rfl, HL'.out, HU.out, HD1.out.drewN _, HK.out.trans (keeps_d bl _ _)⟩
        case measure => simp [intOf]; omega
    · obtain rfl : i = j := by omega
      obtain ⟨wo, rfl⟩ : ∃ wo : World, wo = wr := ⟨_, rfl⟩
      have HF := Lib.hid (St.ins_sorted (key := key) (i := m) (j := i) H2.out.l hi hj HL.out HU.out)
      go_wp2_with fail
      go_loopw [17] (fun p wr => ∃ k : Nat, i ≤ k ∧ k ≤ m ∧ p = .int .i64 (k : Int) ∧ Dat bl N bb lb lo c n key (St.ins f m k) wr ∧ Keeps (Ro bl) w wr) (fun p _ => (intOf p).toNat)
      case atStart => exact ⟨m, hj, Nat.le_refl _, rfl, by rw [St.ins_self]; exact HD1.out, HK.out⟩
      case round =>
        obtain ⟨k, hk1, hk2, rfl, hD, hK2⟩ := hrel
        by_cases hkz : i < k
        · obtain ⟨t, rfl⟩ : ∃ t, k = t + 1 := ⟨k - 1, by omega⟩
          obtain ⟨c1, f1⟩ := hD.row (t + 1) (by omega)
          obtain ⟨c2, f2⟩ := hD.row t (by omega)
          have hW := hD.swap' (t + 1) t (by omega) (by omega) (by omega)
          rw [St.ins_swp f m t (by omega)] at hW
          have HW := Lib.hid hW
          have HK2 := Lib.hid hK2
          clear hW hK2 hD
          generalize St.ins f m (t + 1) (t + 1) = P at c1 HW
          generalize St.ins f m (t + 1) t = Q at c2 HW
          have e1 : ((t + 1 : Nat) : Int) - 1 = (t : Int) := by omega
          have e2 : 0 ≤ (t : Int) := by omega
          have e3 : ((t + 1 : Nat) : Int) < (N : Int) := by omega
          have e4 : (t : Int) < (N : Int) := by omega
          have e5 : (i : Int) < ((t + 1 : Nat) : Int) := by omega
          have e6 : 0 ≤ ((t + 1 : Nat) : Int) := by omega
          generalize ht : ((t + 1 : Nat) : Int) = T at *
          have e7 : T.toNat = t + 1 := by omega
          clear ht
          go_wp2_with fail
          go_region
          go_wp2_with fail
          go_roundw
          case rel => exact ⟨t, by omega, by omega, rfl, HW.out.drewN 1, (HK2.out.trans (keeps_two bl _ _ _ _ _)).drew⟩
          case measure => simp [intOf]; omega
        · obtain rfl : k = i := by omega
          have HD2 := Lib.hid hD
          have HK2 := Lib.hid hK2
          clear hD hK2
          go_wp2_with fail
          go_end0
          exact ⟨_, HF.out, St.ins_did f m k a (m + 1) hi hj (by omega), rfl, HD2.out, HK2.out⟩
end Go.Proofs.Ytonpbbflloljgaa
