/-
  The walks of slices' stable sort, third part: merging in place, where one side is a single number.
-/
import Derived.Test.YtonpbbflloljgaaStabI
namespace Go.Proofs.Ytonpbbflloljgaa
open Go.RowKit

/-- Two rows side by side, each in order, of which the left one's numbers are all below the right one's. -/
structure Two2 (key : Nat → Int) (a m b : Nat) (f : Nat → Nat) : Prop where
  l : St.Sorted key a m f
  r : St.Sorted key m b f
  ids : ∀ i j, a ≤ i → i < m → m ≤ j → j < b → f i < f j
theorem keeps_d (bl m : Nat) (w : World) : Keeps (Ro bl) w (w.drewN m) := ⟨rfl, rfl, rfl, Nat.le_refl _, fun _ _ _ => rfl⟩

set_option maxHeartbeats 3200000 in
set_option maxRecDepth 100000 in
theorem symMerge_left (bl N cap bb lb lo c n : Nat) (key : Nat → Int) (f : Nat → Nat) (a b : Nat) (w : World) (hN : N ≤ 200) (hd : Dat bl N bb lb lo c n key f w) (hmb : a + 1 < b) (hb : b ≤ N) (h2 : Two2 key a (a + 1) b f) :
    Calls Try.prog 37 #[.slice (some ⟨bl, 0, none⟩) N cap, .int .i64 (a : Int), .int .i64 ((a + 1 : Nat) : Int), .int .i64 (b : Int), cmpF bb] w (MadeS bl N bb lb lo c n key a b f w) := by
  have HD := Lib.hid hd
  have H2 := Lib.hid h2
  clear hd h2
  generalize hM : ((a + 1 : Nat) : Int) = M
  have s1 : M - (a : Int) = 1 := by omega
  have HM := Lib.hid hM
  clear hM
  go_enter Try.func37, Try.ntmps37
  go_wp2_with fail
  go_loopw [10, 11] (fun p q wr => ∃ i j : Nat, a + 1 ≤ i ∧ i ≤ j ∧ j ≤ b ∧ p = .int .i64 (i : Int) ∧ q = .int .i64 (j : Int) ∧ (∀ k, a + 1 ≤ k → k < i → St.R key (f k) (f a)) ∧ (∀ k, j ≤ k → k < b → St.R key (f a) (f k)) ∧ Dat bl N bb lb lo c n key f wr ∧ Keeps (Ro bl) w wr) (fun p q _ => (intOf q).toNat - (intOf p).toNat)
  case atStart => exact ⟨a + 1, b, Nat.le_refl _, by omega, Nat.le_refl _, by rw [HM.out], rfl, fun k h1 h2 => by omega, fun k h1 h2 => by omega, HD.out, Keeps.refl _ _⟩
  case round =>
    obtain ⟨i, j, hi, hij, hj, rfl, rfl, hlo, hup, hD, hK⟩ := hrel
    have HL := Lib.hid hlo
    have HU := Lib.hid hup
    have HD1 := Lib.hid hD
    have HK := Lib.hid hK
    clear hlo hup hD hK
    by_cases hlt : i < j
    · obtain ⟨h, hh⟩ : ∃ h, h = (i + j) / 2 := ⟨_, rfl⟩
      have h1 : i ≤ h := by omega
      have h2 : h < j := by omega
      have eh : ((i : Int) + (j : Int)) / 2 = (h : Int) := by omega
      have e1 : 0 ≤ (h : Int) := by omega
      have e2 : (h : Int) < (N : Int) := by omega
      have e3 : (a : Int) < (N : Int) := by omega
      have e4 : 0 ≤ (a : Int) := by omega
      obtain ⟨c1, _⟩ := HD1.out.row h (by omega)
      obtain ⟨c2, _⟩ := HD1.out.row a (by omega)
      have hC := Lib.hid fun m => cmp_at HD1.out h a m (by omega) (by omega)
      by_cases hl : key (f h) < key (f a)
      · have t1 : decide (cmpV (key (f h)) (key (f a)) < 0) = true := by rw [cmpV_neg, decide_eq_true hl]
        have HL' : Hid (∀ k, a + 1 ≤ k → k < h + 1 → St.R key (f k) (f a)) := Lib.hid fun k k1 k2 => by
          by_cases e : k = h
          · rw [e]; exact St.R.lt hl
          · exact St.R.trans (H2.out.r k h k1 (by omega) (by omega)) (St.R.lt hl)
        clear hl hh
        generalize cmpV (key (f h)) (key (f a)) = V at hC t1
        go_wp2_with fail
        go_quiet ((go_at_call 9; exact hC.out _))
        go_wp2_with fail
        go_roundw
        case rel => exact ⟨h + 1, j, by omega, by omega, hj, by go_num, rfl, HL'.out, HU.out, HD1.out.drewN _, HK.out.trans (keeps_d bl _ _)⟩
        case measure => simp [intOf]; omega
      · have t1 : decide (cmpV (key (f h)) (key (f a)) < 0) = false := by rw [cmpV_neg, decide_eq_false hl]
        have HU' : Hid (∀ k, h ≤ k → k < b → St.R key (f a) (f k)) := Lib.hid fun k k1 k2 => by
          have h0 : St.R key (f a) (f h) := St.R.of_not hl (H2.out.ids a h (Nat.le_refl _) (by omega) (by omega) (by omega))
          by_cases e : k = h
          · rw [e]; exact h0
          · exact St.R.trans h0 (H2.out.r h k (by omega) (by omega) k2)
        clear hl hh
        generalize cmpV (key (f h)) (key (f a)) = V at hC t1
        go_wp2_with fail
        go_quiet ((go_at_call 9; exact hC.out _))
        go_wp2_with fail
        go_roundw
        case rel => exact ⟨i, h, hi, h1, by omega, rfl, rfl, HL.out, HU'.out, HD1.out.drewN _, HK.out.trans (keeps_d bl _ _)⟩
        case measure => simp [intOf]; omega
    · obtain rfl : i = j := by omega
      obtain ⟨wo, rfl⟩ : ∃ wo : World, wo = wr := ⟨_, rfl⟩
      obtain ⟨z, rfl⟩ : ∃ z, i = z + 1 := ⟨i - 1, by omega⟩
      have HF := Lib.hid (St.rol_sorted (key := key) H2.out.r (by omega) hj HL.out HU.out)
      have e1 : ((z + 1 : Nat) : Int) - 1 = (z : Int) := by omega
      generalize hZ : ((z + 1 : Nat) : Int) = Z at *
      have HZ := Lib.hid hZ
      clear hZ
      go_wp2_with fail
      go_loopw [13] (fun p wr => ∃ k : Nat, a ≤ k ∧ k ≤ z ∧ p = .int .i64 (k : Int) ∧ Dat bl N bb lb lo c n key (St.rol f a k) wr ∧ Keeps (Ro bl) w wr) (fun p _ => z - (intOf p).toNat)
      case atStart => exact ⟨a, Nat.le_refl _, by omega, rfl, by rw [St.rol_self]; exact HD1.out, HK.out⟩
      case round =>
        obtain ⟨k, hk1, hk2, rfl, hD, hK2⟩ := hrel
        by_cases hkz : k < z
        · obtain ⟨c1, f1⟩ := hD.row k (by omega)
          obtain ⟨c2, f2⟩ := hD.row (k + 1) (by omega)
          have hW := hD.swap' k (k + 1) (by omega) (by omega) (by omega)
          rw [St.rol_swp f a k hk1] at hW
          have HW := Lib.hid hW
          have HK2 := Lib.hid hK2
          clear hW hK2 hD
          generalize St.rol f a k k = P at c1 HW
          generalize St.rol f a k (k + 1) = Q at c2 HW
          have e2 : 0 ≤ (k : Int) := by omega
          have e3 : (k : Int) + 1 < (N : Int) := by omega
          have e4 : ((k : Int) + 1).toNat = k + 1 := by omega
          go_wp2_with fail
          go_region
          go_wp2_with fail
          go_roundw
          case rel => exact ⟨k + 1, by omega, by omega, by go_num, HW.out.drewN 1, (HK2.out.trans (keeps_two bl _ _ _ _ _)).drew⟩
          case measure => simp [intOf]; omega
        · obtain rfl : k = z := by omega
          have HD2 := Lib.hid hD
          have HK2 := Lib.hid hK2
          clear hD hK2
          go_wp2_with fail
          go_end0
          exact ⟨_, HF.out, St.rol_did f a k a b (Nat.le_refl _) hk1 (by omega), rfl, HD2.out, HK2.out⟩
end Go.Proofs.Ytonpbbflloljgaa
