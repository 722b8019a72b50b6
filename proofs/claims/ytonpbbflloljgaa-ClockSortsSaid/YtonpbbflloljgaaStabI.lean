/-
  The walks of slices' stable sort, second part: insertion, rotation.
-/
import Derived.Test.YtonpbbflloljgaaStabW
namespace Go.Proofs.Ytonpbbflloljgaa
open Go.RowKit

/-- The comparison as a value. -/
abbrev cmpF (bb : Nat) : Value := .func (.func 9) #[] #[.pointer (some ⟨bb, 0, none⟩)]
/-- What a call makes of the row from a to b: it is in order, of the same numbers. -/
def MadeS (bl N bb lb lo c n : Nat) (key : Nat → Int) (a b : Nat) (f : Nat → Nat) (w : World) (e : Ending) (w' : World) : Prop :=
  ∃ g, St.Sorted key a b g ∧ St.Did a b f g ∧ Made bl N bb lb lo c n key w g e w'
theorem cmp_at {bl N bb lb lo c n : Nat} {key : Nat → Int} {f : Nat → Nat} {w : World} (h : Dat bl N bb lb lo c n key f w) (i j m : Nat) (hi : i < N) (hj : j < N) :
    Calls Try.prog 9 #[.int .i64 (f i : Int), .int .i64 (f j : Int), .pointer (some ⟨bb, 0, none⟩)] (w.drewN m) fun e w'' => e = .returned (.int .i64 (cmpV (key (f i)) (key (f j)))) ∧ ∃ q, w'' = w.drewN q :=
  Calls.quiet_of (cmp_any bb lb lo c n (f i) (f j) _ _ (w.drewN m) (h.ids i hi) (h.ids j hj) h.box (h.keys _ (h.ids i hi)) (h.keys _ (h.ids j hj)))

theorem keeps_sw (bl i j m : Nat) (u v : Value) (w : World) : Keeps (Ro bl) w (((w.drewN m).setCell ⟨bl, i, none⟩ u).setCell ⟨bl, j, none⟩ v) :=
  (show Keeps (Ro bl) w (w.drewN m) from ⟨rfl, rfl, rfl, Nat.le_refl _, fun _ _ _ => rfl⟩).trans (keeps_two bl i j u v _)

set_option maxHeartbeats 3200000 in
set_option maxRecDepth 100000 in
theorem insertion_any (bl N cap bb lb lo c n : Nat) (key : Nat → Int) (f : Nat → Nat) (a b : Nat) (w : World) (hN : N ≤ 200) (hd : Dat bl N bb lb lo c n key f w) (hab : a ≤ b) (hb : b ≤ N) (rise : ∀ i j, a ≤ i → i < j → j < b → f i < f j) :
    Calls Try.prog 36 #[.slice (some ⟨bl, 0, none⟩) N cap, .int .i64 (a : Int), .int .i64 (b : Int), cmpF bb] w (MadeS bl N bb lb lo c n key a b f w) := by
  have HD := Lib.hid hd
  have HR := Lib.hid rise
  clear hd rise
  go_enter Try.func36, Try.ntmps36
  go_wp2_with fail
  go_loopw [8] (fun s wr => ∃ (i : Nat) (g : Nat → Nat), a + 1 ≤ i ∧ (i ≤ b ∨ i = a + 1 ∧ g = f) ∧ s = .int .i64 (i : Int) ∧ St.Sorted key a i g ∧ St.Did a i f g ∧ Dat bl N bb lb lo c n key g wr ∧ Keeps (Ro bl) w wr) (fun s _ => b + 1 - (intOf s).toNat)
  case atStart => exact ⟨a + 1, f, Nat.le_refl _, Or.inr ⟨rfl, rfl⟩, rfl, fun i j _ _ _ => by omega, St.Did.refl _ _ _, HD.out, Keeps.refl _ _⟩
  case round =>
    obtain ⟨i, g, hi, hib, rfl, hs, hdid, hD, hK⟩ := hrel
    obtain ⟨wo, rfl⟩ : ∃ wo : World, wo = wr := ⟨_, rfl⟩
    have HS := Lib.hid hs
    have HDid := Lib.hid hdid
    have HDo := Lib.hid hD
    have HK := Lib.hid hK
    clear hs hdid hD hK
    by_cases hlt : i < b
    · have hid : Hid (∀ k, a ≤ k → k < i → g k < g i) := Lib.hid fun k h1 h2 => by
        obtain ⟨k', q1, q2, e⟩ := HDid.out.to k h1 h2
        rw [e, HDid.out.out i (Or.inr (Nat.le_refl _))]
        exact HR.out k' i q1 q2 hlt
      go_wp2_with fail
      go_loopw [9] (fun s wr => ∃ j : Nat, a ≤ j ∧ j ≤ i ∧ s = .int .i64 (j : Int) ∧ (∀ k, j ≤ k → k < i → St.R key (g i) (g k)) ∧ Dat bl N bb lb lo c n key (St.ins g i j) wr ∧ Keeps (Ro bl) w wr) (fun s _ => (intOf s).toNat)
      case atStart => exact ⟨i, by omega, Nat.le_refl _, rfl, fun k h1 h2 => by omega, by rw [St.ins_self]; exact HDo.out, HK.out⟩
      case round =>
        obtain ⟨j, hj1, hj2, rfl, hup, hD, hK2⟩ := hrel
        have HU := Lib.hid hup
        have HD1 := Lib.hid hD
        have HK2 := Lib.hid hK2
        clear hup hD hK2
        by_cases hja : a < j
        · obtain ⟨t, rfl⟩ : ∃ t, j = t + 1 := ⟨j - 1, by omega⟩
          obtain ⟨c1, f1⟩ := HD1.out.row (t + 1) (by omega)
          obtain ⟨c2, f2⟩ := HD1.out.row t (by omega)
          have hC := Lib.hid fun m => cmp_at HD1.out (t + 1) t m (by omega) (by omega)
          have e1 : ((t + 1 : Nat) : Int) - 1 = (t : Int) := by omega
          have e2 : 0 ≤ (t : Int) := by omega
          have e3 : (t : Int) < (N : Int) := by omega
          have e4 : ((t + 1 : Nat) : Int) < (N : Int) := by omega
          have e5 : (a : Int) < ((t + 1 : Nat) : Int) := by omega
          have e6 : 0 ≤ ((t + 1 : Nat) : Int) := by omega
          have i1 : St.ins g i (t + 1) (t + 1) = g i := by unfold St.ins; rw [if_neg (by omega), if_pos rfl]
          have i2 : St.ins g i (t + 1) t = g t := by unfold St.ins; rw [if_pos (by omega)]
          have hW := fun m => (HD1.out.drewN m).swap' (t + 1) t (by omega) (by omega) (by omega)
          rw [St.ins_swp g i t (by omega)] at hW
          have hidt := hid.out t (by omega) (by omega)
          rw [i1] at c1 hC hW
          rw [i2] at c2 hC hW
          have hins : Hid (St.Sorted key a i g) := HS
          by_cases hl : key (g i) < key (g t)
          · have t1 : decide (cmpV (key (g i)) (key (g t)) < 0) = true := by rw [cmpV_neg, decide_eq_true hl]
            have HL := Lib.hid hl
            have HW := Lib.hid hW
            clear i1 i2 hW hl hidt
            generalize hP : g i = P at c1 hC HW t1
            generalize hQ : g t = Q at c2 hC HW t1
            have HP := Lib.hid hP
            have HQ := Lib.hid hQ
            clear hP hQ
            generalize ht : ((t + 1 : Nat) : Int) = T at *
            generalize cmpV (key P) (key Q) = V at hC t1
            have HT := Lib.hid ht
            have e7 : T.toNat = t + 1 := by omega
            clear ht
            go_wp2_with fail
            go_quiet ((go_at_call 9; exact hC.out _))
            go_wp2_with fail
            go_region
            go_wp2_with fail
            go_roundw
            case rel => exact ⟨t, by omega, by omega, rfl, fun k h1 h2 => by
              rw [← HP.out]
              by_cases e : k = t
              · rw [e]; exact St.R.lt HL.out
              · exact HU.out k (by omega) h2, HW.out _, HK2.out.trans (keeps_sw bl _ _ _ _ _ _)⟩
            case measure => simp [intOf]; omega
          · have t1 : decide (cmpV (key (g i)) (key (g t)) < 0) = false := by rw [cmpV_neg, decide_eq_false hl]
            have HF := Lib.hid (St.ins_sorted (j := t + 1) HS.out (by omega) hj2 (fun k h1 h2 => by
              by_cases e : k = t
              · rw [e]; exact St.R.of_not hl hidt
              · exact St.R.trans (HS.out k t h1 (by omega) (by omega)) (St.R.of_not hl hidt)) HU.out)
            clear i1 i2 hW hl hidt
            generalize hP : g i = P at c1 hC t1
            generalize hQ : g t = Q at c2 hC t1
            clear hP hQ
            generalize ht : ((t + 1 : Nat) : Int) = T at *
            generalize cmpV (key P) (key Q) = V at hC t1
            have e7 : T.toNat = t + 1 := by omega
            clear ht
            go_wp2_with fail
            go_quiet ((go_at_call 9; exact hC.out _))
            go_wp2_with fail
            go_roundw
            case rel => exact ⟨i + 1, _, by omega, Or.inl (by omega), by go_num, HF.out, (HDid.out.wide (Nat.le_refl _) (by omega)).trans (St.ins_did g i (t + 1) a (i + 1) (by omega) hj2 (by omega)), HD1.out.drewN _, HK2.out.trans ⟨rfl, rfl, rfl, Nat.le_refl _, fun _ _ _ => rfl⟩⟩
            case measure => simp [intOf]; omega
        · obtain rfl : j = a := by omega
          have HF := Lib.hid (St.ins_sorted (j := j) HS.out (Nat.le_refl _) hj2 (fun k h1 h2 => by omega) HU.out)
          have e1 : decide ((j : Int) < (j : Int)) = false := by simp
          go_wp2_with fail
          go_quiet (fail)
          go_wp2_with fail
          go_roundw
          case rel => exact ⟨i + 1, _, by omega, Or.inl (by omega), by go_num, HF.out, (HDid.out.wide (Nat.le_refl _) (by omega)).trans (St.ins_did g i j j (i + 1) (Nat.le_refl _) hj2 (by omega)), HD1.out.drewN _, HK2.out.trans ⟨rfl, rfl, rfl, Nat.le_refl _, fun _ _ _ => rfl⟩⟩
          case measure => simp [intOf]; omega
    · go_wp2_with fail
      go_end0
      refine ⟨g, ?_, (by rcases hib with h | ⟨_, h⟩
                         · exact HDid.out.wide (Nat.le_refl _) (by omega)
                         · rw [h]; exact St.Did.refl _ _ _), rfl, HDo.out, HK.out⟩
      intro p q h1 h2 h3
      exact HS.out p q h1 h2 (by omega)

set_option maxHeartbeats 3200000 in
set_option maxRecDepth 100000 in
theorem rotate_any (bl N cap bb lb lo c n : Nat) (key : Nat → Int) (f : Nat → Nat) (a m b : Nat) (vc : Value) (w : World) (hN : N ≤ 200) (hd : Dat bl N bb lb lo c n key f w) (ham : a < m) (hmb : m < b) (hb : b ≤ N) :
    Calls Try.prog 41 #[.slice (some ⟨bl, 0, none⟩) N cap, .int .i64 (a : Int), .int .i64 (m : Int), .int .i64 (b : Int), vc] w (Made bl N bb lb lo c n key w (St.rot f a m b)) := by
  have HD := Lib.hid hd
  clear hd
  have s1 : (m : Int) - (a : Int) = ((m - a : Nat) : Int) := by omega
  have s2 : (b : Int) - (m : Int) = ((b - m : Nat) : Int) := by omega
  go_enter Try.func41, Try.ntmps41
  go_wp2_with fail
  go_loopw [10, 11] (fun p q wr => ∃ (i j : Nat) (g : Nat → Nat), 0 < i ∧ 0 < j ∧ i ≤ m ∧ m + j ≤ N ∧ p = .int .i64 (i : Int) ∧ q = .int .i64 (j : Int) ∧ St.rot g (m - i) m (m + j) = St.rot f a m b ∧ Dat bl N bb lb lo c n key g wr ∧ Keeps (Ro bl) w wr) (fun p q _ => (intOf p).toNat + (intOf q).toNat)
  case atStart => exact ⟨m - a, b - m, f, by omega, by omega, by omega, by omega, rfl, rfl, by rw [show m - (m - a) = a by omega, show m + (b - m) = b by omega], HD.out, Keeps.refl _ _⟩
  case round =>
    obtain ⟨i, j, g, hi, hj, him, hjn, rfl, rfl, hrot, hD, hK⟩ := hrel
    have HG := Lib.hid hD
    have HK := Lib.hid hK
    have HR := Lib.hid hrot
    have s3 : (m : Int) - (i : Int) = ((m - i : Nat) : Int) := by omega
    clear hD hK hrot s1 s2
    rcases Nat.lt_trichotomy i j with h | h | h
    · have t1 : ((i : Int) != (j : Int)) = true := by rw [bne_iff_ne]; omega
      have t2 : decide (j < i) = false := decide_eq_false (by omega)
      have s4 : (m : Int) + (j : Int) - (i : Int) = ((m + j - i : Nat) : Int) := by omega
      have s5 : (j : Int) - (i : Int) = ((j - i : Nat) : Int) := by omega
      have HS := Lib.hid (St.rot_right g m i j him h)
      have HC : Hid (∀ W, Dat bl N bb lb lo c n key g W → Calls Try.prog 42 #[.slice (some ⟨bl, 0, none⟩) N cap, .int .i64 ((m - i : Nat) : Int), .int .i64 ((m + j - i : Nat) : Int), .int .i64 (i : Int), vc] W (Made bl N bb lb lo c n key W (St.swr g (m - i) (m + j - i) i))) := Lib.hid fun W hW => swapRange_any bl N cap bb lb lo c n key g (m - i) (m + j - i) i vc W hN hW (by omega) (by omega)
      generalize hP : ((m - i : Nat) : Int) = P at s3 HC
      generalize hQ : ((m + j - i : Nat) : Int) = Q at s4 HC
      generalize hT : ((j - i : Nat) : Int) = T at s5
      have HT := Lib.hid hT
      clear hP hQ hT
      go_wp2_with fail
      refine (HC.out _ HG.out).mono ?_
      rintro e w1 ⟨rfl, hD1, hK1⟩
      have HD1 := Lib.hid hD1
      have HK1 := Lib.hid hK1
      clear hD1 hK1
      go_wp2_with fail
      go_roundw
      case rel => exact ⟨i, j - i, _, hi, by omega, him, by omega, rfl, by rw [HT.out], by rw [HS.out, HR.out], HD1.out, HK.out.trans HK1.out⟩
      case measure => rw [← HT.out]; simp [intOf]; omega
    · subst h
      have t1 : ((i : Int) != (i : Int)) = false := bne_self_eq_false _
      have HS := Lib.hid (St.rot_same g m i him)
      have HC : Hid (∀ W, Dat bl N bb lb lo c n key g W → Calls Try.prog 42 #[.slice (some ⟨bl, 0, none⟩) N cap, .int .i64 ((m - i : Nat) : Int), .int .i64 (m : Int), .int .i64 (i : Int), vc] W (Made bl N bb lb lo c n key W (St.swr g (m - i) m i))) := Lib.hid fun W hW => swapRange_any bl N cap bb lb lo c n key g (m - i) m i vc W hN hW (by omega) (by omega)
      generalize hP : ((m - i : Nat) : Int) = P at s3 HC
      clear hP
      go_wp2_with fail
      refine (HC.out _ HG.out).mono ?_
      rintro e w1 ⟨rfl, hD1, hK1⟩
      have HD1 := Lib.hid hD1
      have HK1 := Lib.hid hK1
      clear hD1 hK1
      go_wp2_with fail
      go_end0
      exact ⟨rfl, by rw [← HR.out, ← HS.out]; exact HD1.out, HK.out.trans HK1.out⟩
    · have t1 : ((i : Int) != (j : Int)) = true := by rw [bne_iff_ne]; omega
      have t2 : decide (j < i) = true := decide_eq_true h
      have s5 : (i : Int) - (j : Int) = ((i - j : Nat) : Int) := by omega
      have HS := Lib.hid (St.rot_left g m i j him h)
      have HC : Hid (∀ W, Dat bl N bb lb lo c n key g W → Calls Try.prog 42 #[.slice (some ⟨bl, 0, none⟩) N cap, .int .i64 ((m - i : Nat) : Int), .int .i64 (m : Int), .int .i64 (j : Int), vc] W (Made bl N bb lb lo c n key W (St.swr g (m - i) m j))) := Lib.hid fun W hW => swapRange_any bl N cap bb lb lo c n key g (m - i) m j vc W hN hW (by omega) (by omega)
      generalize hP : ((m - i : Nat) : Int) = P at s3 HC
      generalize hT : ((i - j : Nat) : Int) = T at s5
      have HT := Lib.hid hT
      clear hP hT
      go_wp2_with fail
      refine (HC.out _ HG.out).mono ?_
      rintro e w1 ⟨rfl, hD1, hK1⟩
      have HD1 := Lib.hid hD1
      have HK1 := Lib.hid hK1
      clear hD1 hK1
      go_wp2_with fail
      go_roundw
      case rel => exact ⟨i - j, j, _, by omega, hj, by omega, hjn, by rw [HT.out], rfl, by rw [HS.out, HR.out], HD1.out, HK.out.trans HK1.out⟩
      case measure => rw [← HT.out]; simp [intOf]; omega
end Go.Proofs.Ytonpbbflloljgaa
