/-
  The walk of package heap's down at the clock's queue.
-/
import Derived.Test.YtonpbbflloljgaaHeapW
namespace Go.Proofs.Ytonpbbflloljgaa
open Go.RowKit Go.Maps

/-- What is left behind the way down. -/
theorem down_end {l : List Hp.E} {n i0 k : Nat} (h : Hp.Down l n i0 k) (hk : i0 ≤ k) (hst : ∀ c, 0 < c → c < n → (c - 1) / 2 = k → Hp.le (Hp.g l k) (Hp.g l c)) : (i0 < k → Hp.Heap l n) ∧ (¬ i0 < k → Hp.Up l n i0) := by
  refine ⟨fun hlt => h.moved (by omega) hst, fun hlt => ?_⟩
  obtain rfl : k = i0 := by omega
  exact h.stays hst

set_option maxRecDepth 100000 in
set_option maxHeartbeats 6400000 in
theorem down_any {cb mb : Nat} {v : Value} {l : List Hp.E} {D : DataW Unit} (w : World) (h : QAt w cb v mb l D) (hp : Pl l D) (n i0 : Nat) (hn : n ≤ l.length) (hi : i0 ≤ n) (hu : Hp.Down l n i0 i0) :
    Calls Try.prog 38 #[.iface 49 (.pointer (some ⟨cb, 1, none⟩)), .int .i64 i0, .int .i64 n] w fun e w' => ∃ (b : Bool) (l' : List Hp.E) (D' : DataW Unit), e = .returned (.bool b) ∧ Sifted w w' cb v mb l l' n D' ∧ (b = true → Hp.Heap l' n) ∧ (b = false → Hp.Up l' n i0) := by
  have HS : Hid (Sifted w w cb v mb l l n D) := Lib.hid ⟨h, hp, rfl, List.Perm.refl _, fun _ _ => rfl, KQ.refl _ _ _ _⟩
  have HU := Lib.hid hu
  have hl1000 := hp.len
  have n1 := qn_less ⟨cb, 1, none⟩
  have n2 := qm_less ⟨cb, 1, none⟩
  have n3 := qn_swap ⟨cb, 1, none⟩
  have n4 := qm_swap ⟨cb, 1, none⟩
  clear h hp hu
  go_enter Try.func38, Try.ntmps38
  go_wp2_with fail
  go_loopw [7] (fun jv wr => ∃ (k : Nat) (l' : List Hp.E) (D' : DataW Unit), i0 ≤ k ∧ k ≤ n ∧ jv = .int .i64 k ∧ Hp.Down l' n i0 k ∧ Sifted w wr cb v mb l l' n D') (fun jv _ => n - (intOf jv).toNat)
  case atStart => exact ⟨i0, l, D, Nat.le_refl _, hi, rfl, HU.out, HS.out⟩
  case round =>
    obtain ⟨k, l', D', hik, hk, rfl, hup, hs⟩ := hrel
    clear HS HU
    have HS := Lib.hid hs
    have HU := Lib.hid hup
    have hll : l.length ≤ l'.length := Nat.le_of_eq hs.len.symm
    clear hs hup
    by_cases hA : n ≤ 2 * k + 1
    · have HE := Lib.hid (down_end HU.out hik (fun c h1 h2 h3 => by omega))
      have dA : decide ((n : Int) ≤ 2 * (k : Int) + 1) = true := by rw [decide_eq_true_eq]; omega
      have hAi : (n : Int) ≤ 2 * (k : Int) + 1 := by omega
      go_wp2_with fail
      go_ret
      by_cases hm : i0 < k
      · exact ⟨true, l', D', by rw [← decide_eq_true hm]; rfl, HS.out, fun _ => HE.out.1 hm, fun h => Bool.noConfusion h⟩
      · exact ⟨false, l', D', by rw [← decide_eq_false hm]; rfl, HS.out, fun h => Bool.noConfusion h, fun _ => HE.out.2 hm⟩
    · have hAi : ¬ (n : Int) ≤ 2 * (k : Int) + 1 := by omega
      have dA : decide ((n : Int) ≤ 2 * (k : Int) + 1) = false := by rw [decide_eq_false_iff_not]; omega
      have dB : decide (2 * (k : Int) + 1 < 0) = false := by rw [decide_eq_false_iff_not]; omega
      have hBi : ¬ (2 * (k : Int) + 1 < 0) := by omega
      by_cases hB : 2 * k + 2 < n
      · have hCi : 2 * (k : Int) + 1 + 1 < (n : Int) := by omega
        have dC : decide (2 * (k : Int) + 1 + 1 < (n : Int)) = true := by rw [decide_eq_true_eq]; omega
        go_wp2_with fail
        rw [show (2 * (k : Int) + 1 + 1) = ((2 * k + 2 : Nat) : Int) from by omega, show (2 * (k : Int) + 1) = ((2 * k + 1 : Nat) : Int) from by omega]
        refine (less_any _ HS.out.q (2 * k + 2) (2 * k + 1) (by omega) (by omega)).mono ?_
        rintro e w4 ⟨rfl, hb4⟩
        have HS4 := Lib.hid (HS.out.next hb4)
        clear hb4
        by_cases hl2 : Hp.lt (Hp.g l' (2 * k + 2)) (Hp.g l' (2 * k + 1))
        · have HM : Hid (∀ c, 0 < c → c < n → (c - 1) / 2 = k → Hp.le (Hp.g l' (2 * k + 2)) (Hp.g l' c)) := Lib.hid fun c h1 h2 h3 => by
            rcases (by omega : c = 2 * k + 1 ∨ c = 2 * k + 2) with rfl | rfl
            · exact Hp.le_of_lt hl2
            · exact Hp.le_refl _
          have hd : decide (Hp.lt (Hp.g l' (2 * k + 2)) (Hp.g l' (2 * k + 1))) = true := by rw [decide_eq_true_eq]; exact hl2
          rw [hd]
          clear hd hl2
          go_wp2_with fail
          rw [show (2 * (k : Int) + 2) = ((2 * k + 2 : Nat) : Int) from by omega]
          refine (less_any _ HS4.out.q (2 * k + 2) k (by omega) (by omega)).mono ?_
          rintro e w5 ⟨rfl, hb5⟩
          have HS5 := Lib.hid (HS4.out.next hb5)
          clear hb5
          by_cases hlt : Hp.lt (Hp.g l' (2 * k + 2)) (Hp.g l' k)
          · have hd : decide (Hp.lt (Hp.g l' (2 * k + 2)) (Hp.g l' k)) = true := by rw [decide_eq_true_eq]; exact hlt
            have HD := Lib.hid (HU.out.step (j := 2 * k + 2) (by omega) hik (by omega) (by omega) (by omega) HM.out hlt)
            rw [hd]
            clear hd hlt
            go_wp2_with fail
            rw [show (2 * (k : Int) + 2) = ((2 * k + 2 : Nat) : Int) from by omega]
            refine (swap_any _ HS5.out.q HS5.out.p k (2 * k + 2) (by omega) (by omega) (by omega)).mono ?_
            rintro e w6 ⟨rfl, D6, hq6, hp6, hk6⟩
            have HS6 := Lib.hid (HS5.out.swap (i := k) (j := 2 * k + 2) (by omega) (by omega) hn hq6 hp6 hk6)
            clear hq6 hp6 hk6
            go_wp2_with fail
            go_roundw
            case rel => exact ⟨2 * k + 2, _, D6, by omega, by omega, by go_num, HD.out, HS6.out⟩
            case measure => simp [intOf]; omega
          · have hd : decide (Hp.lt (Hp.g l' (2 * k + 2)) (Hp.g l' k)) = false := by rw [decide_eq_false_iff_not]; exact hlt
            have HE := Lib.hid (down_end HU.out hik (fun c h1 h2 h3 => Hp.le_trans hlt (HM.out c h1 h2 h3)))
            rw [hd]
            clear hd hlt
            go_wp2_with fail
            go_ret
            by_cases hm : i0 < k
            · exact ⟨true, l', D', by rw [← decide_eq_true hm]; rfl, HS5.out, fun _ => HE.out.1 hm, fun h => Bool.noConfusion h⟩
            · exact ⟨false, l', D', by rw [← decide_eq_false hm]; rfl, HS5.out, fun h => Bool.noConfusion h, fun _ => HE.out.2 hm⟩
        · have HM : Hid (∀ c, 0 < c → c < n → (c - 1) / 2 = k → Hp.le (Hp.g l' (2 * k + 1)) (Hp.g l' c)) := Lib.hid fun c h1 h2 h3 => by
            rcases (by omega : c = 2 * k + 1 ∨ c = 2 * k + 2) with rfl | rfl
            · exact Hp.le_refl _
            · exact hl2
          have hd : decide (Hp.lt (Hp.g l' (2 * k + 2)) (Hp.g l' (2 * k + 1))) = false := by rw [decide_eq_false_iff_not]; exact hl2
          rw [hd]
          clear hd hl2
          go_wp2_with fail
          rw [show (2 * (k : Int) + 1) = ((2 * k + 1 : Nat) : Int) from by omega]
          refine (less_any _ HS4.out.q (2 * k + 1) k (by omega) (by omega)).mono ?_
          rintro e w5 ⟨rfl, hb5⟩
          have HS5 := Lib.hid (HS4.out.next hb5)
          clear hb5
          by_cases hlt : Hp.lt (Hp.g l' (2 * k + 1)) (Hp.g l' k)
          · have hd : decide (Hp.lt (Hp.g l' (2 * k + 1)) (Hp.g l' k)) = true := by rw [decide_eq_true_eq]; exact hlt
            have HD := Lib.hid (HU.out.step (j := 2 * k + 1) (by omega) hik (by omega) (by omega) (by omega) HM.out hlt)
            rw [hd]
            clear hd hlt
            go_wp2_with fail
            rw [show (2 * (k : Int) + 1) = ((2 * k + 1 : Nat) : Int) from by omega]
            refine (swap_any _ HS5.out.q HS5.out.p k (2 * k + 1) (by omega) (by omega) (by omega)).mono ?_
            rintro e w6 ⟨rfl, D6, hq6, hp6, hk6⟩
            have HS6 := Lib.hid (HS5.out.swap (i := k) (j := 2 * k + 1) (by omega) (by omega) hn hq6 hp6 hk6)
            clear hq6 hp6 hk6
            go_wp2_with fail
            go_roundw
            case rel => exact ⟨2 * k + 1, _, D6, by omega, by omega, by go_num, HD.out, HS6.out⟩
            case measure => simp [intOf]; omega
          · have hd : decide (Hp.lt (Hp.g l' (2 * k + 1)) (Hp.g l' k)) = false := by rw [decide_eq_false_iff_not]; exact hlt
            have HE := Lib.hid (down_end HU.out hik (fun c h1 h2 h3 => Hp.le_trans hlt (HM.out c h1 h2 h3)))
            rw [hd]
            clear hd hlt
            go_wp2_with fail
            go_ret
            by_cases hm : i0 < k
            · exact ⟨true, l', D', by rw [← decide_eq_true hm]; rfl, HS5.out, fun _ => HE.out.1 hm, fun h => Bool.noConfusion h⟩
            · exact ⟨false, l', D', by rw [← decide_eq_false hm]; rfl, HS5.out, fun h => Bool.noConfusion h, fun _ => HE.out.2 hm⟩
      · have hCi : ¬ 2 * (k : Int) + 1 + 1 < (n : Int) := by omega
        have dC : decide (2 * (k : Int) + 1 + 1 < (n : Int)) = false := by rw [decide_eq_false_iff_not]; omega
        have HM : Hid (∀ c, 0 < c → c < n → (c - 1) / 2 = k → Hp.le (Hp.g l' (2 * k + 1)) (Hp.g l' c)) := Lib.hid fun c h1 h2 h3 => by
          obtain rfl : c = 2 * k + 1 := by omega
          exact Hp.le_refl _
        go_wp2_with fail
        rw [show (2 * (k : Int) + 1) = ((2 * k + 1 : Nat) : Int) from by omega]
        refine (less_any _ HS.out.q (2 * k + 1) k (by omega) (by omega)).mono ?_
        rintro e w5 ⟨rfl, hb5⟩
        have HS5 := Lib.hid (HS.out.next hb5)
        clear hb5
        by_cases hlt : Hp.lt (Hp.g l' (2 * k + 1)) (Hp.g l' k)
        · have hd : decide (Hp.lt (Hp.g l' (2 * k + 1)) (Hp.g l' k)) = true := by rw [decide_eq_true_eq]; exact hlt
          have HD := Lib.hid (HU.out.step (j := 2 * k + 1) (by omega) hik (by omega) (by omega) (by omega) HM.out hlt)
          rw [hd]
          clear hd hlt
          go_wp2_with fail
          rw [show (2 * (k : Int) + 1) = ((2 * k + 1 : Nat) : Int) from by omega]
          refine (swap_any _ HS5.out.q HS5.out.p k (2 * k + 1) (by omega) (by omega) (by omega)).mono ?_
          rintro e w6 ⟨rfl, D6, hq6, hp6, hk6⟩
          have HS6 := Lib.hid (HS5.out.swap (i := k) (j := 2 * k + 1) (by omega) (by omega) hn hq6 hp6 hk6)
          clear hq6 hp6 hk6
          go_wp2_with fail
          go_roundw
          case rel => exact ⟨2 * k + 1, _, D6, by omega, by omega, by go_num, HD.out, HS6.out⟩
          case measure => simp [intOf]; omega
        · have hd : decide (Hp.lt (Hp.g l' (2 * k + 1)) (Hp.g l' k)) = false := by rw [decide_eq_false_iff_not]; exact hlt
          have HE := Lib.hid (down_end HU.out hik (fun c h1 h2 h3 => Hp.le_trans hlt (HM.out c h1 h2 h3)))
          rw [hd]
          clear hd hlt
          go_wp2_with fail
          go_ret
          by_cases hm : i0 < k
          · exact ⟨true, l', D', by rw [← decide_eq_true hm]; rfl, HS5.out, fun _ => HE.out.1 hm, fun h => Bool.noConfusion h⟩
          · exact ⟨false, l', D', by rw [← decide_eq_false hm]; rfl, HS5.out, fun h => Bool.noConfusion h, fun _ => HE.out.2 hm⟩
end Go.Proofs.Ytonpbbflloljgaa
