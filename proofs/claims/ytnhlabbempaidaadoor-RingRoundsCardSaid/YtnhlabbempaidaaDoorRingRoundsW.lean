/-
  The walk of the law RingRounds: taking the first one out and putting it in again, n times, turns a ring by n.
-/
import Derived.Test.YtnhlabbempaidaaDoorFilled
import Derived.Test.YtnhlabbempaidaaDoorRinged
namespace Go.Proofs.YtnhlabbempaidaaDoor
open Go.RowKit

/-- u is t, turned by i. -/
def Rot (t u : List Int) (i : Nat) : Prop := u.length = t.length ∧ ∀ j, j < t.length → u[j]? = t[(j + i) % t.length]?
theorem rot_zero (t : List Int) : Rot t t 0 := ⟨rfl, fun j hj => by rw [Nat.add_zero, Nat.mod_eq_of_lt hj]⟩
theorem Rot.succ {t u : List Int} {x : Int} {i : Nat} (h : Rot t (x :: u) i) : Rot t (u ++ [x]) (i + 1) := by
  obtain ⟨h1, h2⟩ := h
  rw [List.length_cons] at h1
  refine ⟨by simp; omega, fun j hj => ?_⟩
  by_cases e : j < u.length
  · rw [List.getElem?_append_left e]
    have := h2 (j + 1) (by omega)
    rw [List.getElem?_cons_succ] at this
    rw [this]; congr 2; omega
  · obtain rfl : j = u.length := by omega
    rw [List.getElem?_append_right (Nat.le_refl _), Nat.sub_self]
    have := h2 0 (by omega)
    rw [List.getElem?_cons_zero] at this
    rw [List.getElem?_cons_zero, this, Nat.zero_add]
    have : u.length + (i + 1) = i + t.length := by omega
    rw [this, Nat.add_mod_right]
theorem Rot.nil {t u : List Int} {i : Nat} (h : Rot t u i) (ht : t.length = 0) (n : Nat) : Rot t u n := ⟨h.1, fun j hj => by omega⟩
theorem rot_idx (j n m : Nat) : (((j : Nat) : Int) + (n : Int)) % (m : Int) = ((((j + n) % m : Nat)) : Int) := by rw [Int.natCast_emod, Int.natCast_add]
theorem rot_idx' (j n m : Nat) : (((j : Nat) : Int) + (n : Int)).tmod (m : Int) = ((((j + n) % m : Nat)) : Int) := by rw [Int.tmod_eq_emod_of_nonneg (by omega), rot_idx]

set_option maxRecDepth 100000 in
set_option maxHeartbeats 3200000 in
theorem ringRounds_any (size : Int) (v : Value) (l : List Int) (r : Int) (w : World) (_h1 : -9223372036854775808 ≤ size) (_h2 : size ≤ 9223372036854775807) (hv : NumsAt .i64 w v l) (_h3 : -9223372036854775808 ≤ r) (_h4 : r ≤ 9223372036854775807) (hE : ErrT w) :
    Calls Tryd.prog 7 #[.int .i64 size, v, .int .i64 r] w fun e w' => e = .returned (.bool true) ∧ Below w.heap.size w w' := by
  have HE := Lib.hid hE
  have HV := Lib.hid hv.ints
  obtain ⟨ao, m, cap, rfl, hm, -, -, -, -⟩ := hv
  clear hE
  by_cases h100 : 100 < m
  · have h1i : (100 : Int) < (m : Int) := by omega
    go_enter Tryd.func7, Tryd.ntmps7
    go_wp2_with fail
    refine (ringed_any _ HE.out).mono ?_
    rintro e w1 ⟨rfl, hb1⟩
    go_wp2_with fail
    go_ret
    exact ⟨rfl, hb1⟩
  · have h1i : ¬ (100 : Int) < (m : Int) := by omega
    have HM := Lib.hid hm
    clear hm
    go_enter Tryd.func7, Tryd.ntmps7
    go_wp2_with fail
    refine (ringed_any _ HE.out).mono ?_
    rintro e w1 ⟨rfl, hb1⟩
    have HB1 := Lib.hid hb1
    clear hb1
    go_wp2_with fail
    refine (filled_any size _ l _ (HV.out.below HB1.out)).mono ?_
    rintro e w2 ⟨rb, sb, B, n, vi, rfl, hn, hR, hb2⟩
    have HB2 : Hid (Below w.heap.size w w2) := Lib.hid (HB1.out.trans (hb2.mono HB1.out.size))
    have HLO : Hid (w.heap.size ≤ w1.heap.size) := Lib.hid HB1.out.size
    generalize l.take n = t at *
    obtain ⟨ao2, cap2, hv2⟩ := hR.own.slice
    subst hv2
    have HR := Lib.hid hR
    have ht64 : t.length ≤ 64 := by have := hR.ring.le; omega
    clear hR hb2
    go_wp2_with fail
    refine (pick_any r 200 _ (by decide) (by decide)).mono ?_
    rintro e w3 ⟨c, hc, rfl, rfl⟩
    go_wp2_with fail
    go_loopw [9] (fun i wr => ∃ (k : Nat) (u : List Int), k ≤ c ∧ i = .int .i64 k ∧ Rot t u k ∧ Ringed wr w1.heap.size rb sb B n (.slice ao2 t.length cap2) t u ∧ Below w.heap.size w wr) (fun i _ => c - (intOf i).toNat)
    case atStart => exact ⟨0, t, Nat.zero_le _, rfl, rot_zero t, HR.out, HB2.out⟩
    case round =>
      obtain ⟨k, u, hk, rfl, hrot, hR, hb⟩ := hrel
      clear HR HB2
      have HR := Lib.hid hR
      have HB := Lib.hid hb
      have HRO := Lib.hid hrot
      clear hR hb hrot
      by_cases hgo : k < c ∧ 0 < t.length
      · obtain ⟨hkc, htl⟩ := hgo
        obtain ⟨x, u', rfl⟩ : ∃ x u', u = x :: u' := by
          have := HRO.out.1
          cases u with
          | nil => simp at this; omega
          | cons x u' => exact ⟨x, u', rfl⟩
        have hti : (0 : Int) < (t.length : Int) := by omega
        go_wp2_with fail
        refine (lpopI_ok HR.out.ring).mono ?_
        rintro e w4 ⟨rfl, hr4, hk4⟩
        have HR4 := Lib.hid (HR.out.step hr4 hk4)
        have HB4 : Hid (Below w.heap.size w w4) := Lib.hid (HB.out.trans (hk4.below HB.out.size (fun k hk h => Nat.le_trans HLO.out (HR.out.two' k hk h))))
        have HRN : Hid (u'.length < n) := Lib.hid (by have := HR.out.ring.le; rw [List.length_cons] at this; omega)
        clear hr4 hk4
        go_wp2_with fail
        refine (lpushI_ok HR4.out.ring HRN.out x).mono ?_
        rintro e w5 ⟨rfl, hr5, hk5⟩
        have HR5 := Lib.hid (HR4.out.step hr5 hk5)
        have HB5 : Hid (Below w.heap.size w w5) := Lib.hid (HB4.out.trans (hk5.below HB4.out.size (fun k hk h => Nat.le_trans HLO.out (HR4.out.two' k hk h))))
        clear hr5 hk5
        go_wp2_with fail
        go_roundw
        case rel => exact ⟨k + 1, _, by omega, by go_num, HRO.out.succ, HR5.out, HB5.out⟩
        case measure => simp [intOf]; omega
      · have HROT : Hid (Rot t u c) := Lib.hid (by
          by_cases e : k = c
          · rw [← e]; exact HRO.out
          · exact HRO.out.nil (by omega) c)
        clear HRO
        by_cases hkc : k < c
        all_goals
          have htz : k < c → ¬ (0 : Int) < (t.length : Int) := fun h => by omega
          first | (have hti := htz hkc; clear htz) | clear htz
          clear hgo
          go_wp2_with fail
          go_loopw [12] (fun i wr => ∃ (j : Nat), j ≤ t.length ∧ i = .int .i64 j ∧ Ringed wr w1.heap.size rb sb B n (.slice ao2 t.length cap2) t u ∧ Below w.heap.size w wr) (fun i _ => t.length - (intOf i).toNat)
          case atStart => exact ⟨0, Nat.zero_le _, rfl, HR.out, HB.out⟩
          case round =>
            clear HR HB
            obtain ⟨j, hj, rfl, hR, hb⟩ := hrel
            have HR := Lib.hid hR
            have HB := Lib.hid hb
            clear hR hb
            by_cases hjl : j < t.length
            · try (exfalso; omega)
              all_goals
                have hidx : (j + c) % t.length < t.length := Nat.mod_lt _ (by omega)
                have e1 := rot_idx j c t.length
                have e2 := rot_idx' j c t.length
                have HX : Hid (u[j]? = some (t.getD ((j + c) % t.length) 0)) := Lib.hid (by
                  rw [HROT.out.2 j hjl, List.getD_eq_getElem?_getD, List.getElem?_eq_getElem hidx]; rfl)
                generalize (j + c) % t.length = d at *
                have hdi : (0 : Int) ≤ (d : Int) ∧ (d : Int) < (t.length : Int) := by omega
                have g0 : ((t.length : Int) == 0) = false := by rw [beq_eq_false_iff_ne]; omega
                have g1 : ¬ ((t.length : Int) = 0) := by omega
                go_wp2_with fail
                refine (latI_ok HR.out.ring j _ HX.out).mono ?_
                rintro e w4 ⟨rfl, hr4, hk4⟩
                have HR4 := Lib.hid (HR.out.step hr4 hk4)
                have HB4 : Hid (Below w.heap.size w w4) := Lib.hid (HB.out.trans (hk4.below HB.out.size (fun k hk h => Nat.le_trans HLO.out (HR.out.two' k hk h))))
                clear hr4 hk4
                obtain ⟨ao4, n4, cap4, hv4, hn4, -, -, hx4⟩ := HR4.out.own.ints
                cases hv4
                obtain ⟨g, o, rfl, -, hcell⟩ := hx4 (by omega)
                have hc := hcell d hidx
                clear hcell hx4 hn4
                generalize t.getD d 0 = x at *
                go_wp2_with fail
                go_roundw
                case rel => exact ⟨j + 1, by omega, by go_num, HR4.out, HB4.out⟩
                case measure => simp [intOf]; omega
            · obtain rfl : j = t.length := by omega
              have HUL : Hid (u.length = t.length) := Lib.hid HROT.out.1
              go_wp2_with fail
              refine (llenI HR.out.ring).mono ?_
              rintro e w4 ⟨rfl, rfl⟩
              rw [HUL.out]
              go_wp2_with fail
              go_ret
              exact ⟨rfl, HB.out⟩
end Go.Proofs.YtnhlabbempaidaaDoor
