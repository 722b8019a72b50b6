/-
  The walk of slices' stable sort, fifth part: merging in place.
-/
import Derived.Test.YtonpbbflloljgaaStabX
namespace Go.Proofs.Ytonpbbflloljgaa
open Go.RowKit

set_option maxHeartbeats 6400000 in
set_option maxRecDepth 100000 in
theorem symMerge_small (bl N cap bb lb lo c n : Nat) (key : Nat → Int) (f : Nat → Nat) (a m b mid : Nat) (w : World) (hN : N ≤ 200) (hd : Dat bl N bb lb lo c n key f w) (ham : a + 1 < m) (hmb : m + 1 < b) (hb : b ≤ N) (h2 : Two2 key a m b f) (hmid : mid = (a + b) / 2) (hm : m ≤ mid)
    (ih : ∀ (a' m' b' : Nat) (g : Nat → Nat) (W : World), a ≤ a' → b' ≤ b → b' - a' < b - a → a' < m' → m' < b' → Dat bl N bb lb lo c n key g W → Two2 key a' m' b' g →
      Calls Try.prog 37 #[.slice (some ⟨bl, 0, none⟩) N cap, .int .i64 (a' : Int), .int .i64 (m' : Int), .int .i64 (b' : Int), cmpF bb] W (MadeS bl N bb lb lo c n key a' b' g W)) :
    Calls Try.prog 37 #[.slice (some ⟨bl, 0, none⟩) N cap, .int .i64 (a : Int), .int .i64 (m : Int), .int .i64 (b : Int), cmpF bb] w (MadeS bl N bb lb lo c n key a b f w) := by
  have HD := Lib.hid hd
  have H2 := Lib.hid h2
  have IH := Lib.hid ih
  clear hd h2 ih
  have s0 : ((m : Int) - (a : Int) == 1) = false := by rw [beq_eq_false_iff_ne]; omega
  have s1 : ((b : Int) - (m : Int) == 1) = false := by rw [beq_eq_false_iff_ne]; omega
  have s2 : ((a : Int) + (b : Int)) / 2 = (mid : Int) := by omega
  have s3 : decide (mid < m) = false := decide_eq_false (by omega)
  obtain ⟨p, hp0⟩ : ∃ p, p = mid + m - 1 := ⟨_, rfl⟩
  have s5 : (mid : Int) + (m : Int) - 1 = (p : Int) := by omega
  have HP := Lib.hid hp0
  have HMID := Lib.hid hmid
  clear hp0 hmid
  go_enter Try.func37, Try.ntmps37
  go_wp2_with fail
  go_loopw [20, 21] (fun x y wr => ∃ s r : Nat, a ≤ s ∧ s ≤ r ∧ r ≤ m ∧ x = .int .i64 (s : Int) ∧ y = .int .i64 (r : Int) ∧ (s = a ∨ St.R key (f (s - 1)) (f (mid + m - s))) ∧ (r = m ∨ St.R key (f (p - r)) (f r)) ∧ Dat bl N bb lb lo c n key f wr ∧ Keeps (Ro bl) w wr) (fun x y _ => (intOf y).toNat - (intOf x).toNat)
  case atStart => exact ⟨a, m, Nat.le_refl _, by omega, Nat.le_refl _, rfl, rfl, Or.inl rfl, Or.inl rfl, HD.out, Keeps.refl _ _⟩
  case round =>
    obtain ⟨s, r, hs0, hsr, hr0, rfl, rfl, hlo, hup, hD, hK⟩ := hrel
    have HL := Lib.hid hlo
    have HU := Lib.hid hup
    have HD1 := Lib.hid hD
    have HK := Lib.hid hK
    have hp := HP.out
    have hmid := HMID.out
    clear hlo hup hD hK
    by_cases hlt : s < r
    · obtain ⟨h, hh⟩ : ∃ h, h = (s + r) / 2 := ⟨_, rfl⟩
      have h1 : s ≤ h := by omega
      have h2 : h < r := by omega
      obtain ⟨q, hq⟩ : ∃ q, q = p - h := ⟨_, rfl⟩
      have eh : ((s : Int) + (r : Int)) / 2 = (h : Int) := by omega
      have eq : (p : Int) - (h : Int) = (q : Int) := by omega
      have k1 : a ≤ h := by omega
      have k2 : h < m := by omega
      have k3 : m ≤ q := by omega
      have k4 : q < b := by omega
      have e1 : 0 ≤ (h : Int) := by omega
      have e2 : (h : Int) < (N : Int) := by omega
      have e3 : (q : Int) < (N : Int) := by omega
      have e4 : 0 ≤ (q : Int) := by omega
      obtain ⟨c1, _⟩ := HD1.out.row h (by omega)
      obtain ⟨c2, _⟩ := HD1.out.row q (by omega)
      have hC := Lib.hid fun t => cmp_at HD1.out q h t (by omega) (by omega)
      have hid := H2.out.ids h q k1 k2 k3 k4
      by_cases hl : key (f q) < key (f h)
      · have t1 : decide (cmpV (key (f q)) (key (f h)) < 0) = true := by rw [cmpV_neg, decide_eq_true hl]
        have HU' : Hid (h = m ∨ St.R key (f (p - h)) (f h)) := Lib.hid (Or.inr (by rw [← hq]; exact St.R.lt hl))
        clear hl hh hid hq hp hmid s2 s5
        generalize cmpV (key (f q)) (key (f h)) = V at hC t1
        go_wp2_with fail
        go_quiet ((go_at_call 9; exact hC.out _))
        go_wp2_with fail
        go_roundw
        case rel => exact ⟨s, h, hs0, h1, by omega, rfl, rfl, HL.out, HU'.out, HD1.out.drewN _, HK.out.trans (keeps_d bl _ _)⟩
        case measure => simp [intOf]; omega
      · have t1 : decide (cmpV (key (f q)) (key (f h)) < 0) = false := by rw [cmpV_neg, decide_eq_false hl]
        have HL' : Hid (h + 1 = a ∨ St.R key (f (h + 1 - 1)) (f (mid + m - (h + 1)))) := Lib.hid (Or.inr (by rw [Nat.add_sub_cancel, show mid + m - (h + 1) = q by omega]; exact St.R.of_not hl hid))
        clear hl hh hid hq hp hmid s2 s5
        generalize cmpV (key (f q)) (key (f h)) = V at hC t1
        go_wp2_with fail
        go_quiet ((go_at_call 9; exact hC.out _))
        go_wp2_with fail
        go_roundw
        case rel => exact ⟨h + 1, r, by omega, by omega, hr0, by go_num, rfl, HL'.out, HU.out, HD1.out.drewN _, HK.out.trans (keeps_d bl _ _)⟩
        case measure => simp [intOf]; omega
    · obtain rfl : s = r := by omega
      obtain ⟨e, he⟩ : ∃ e, e = mid + m - s := ⟨_, rfl⟩
      have u1 : a ≤ s := by omega
      have u2 : s ≤ m := by omega
      have u3 : m ≤ e := by omega
      have u4 : e ≤ b := by omega
      have u5 : mid = s + (e - m) := by omega
      have ee : (mid : Int) + (m : Int) - (s : Int) = (e : Int) := by omega
      have HA : Hid (a < s → e < b → St.R key (f (s - 1)) (f e)) := Lib.hid fun x1 x2 => by
        rcases HL.out with x3 | x3
        · omega
        · rw [he]; exact x3
      have HB : Hid (s < m → m < e → St.R key (f (e - 1)) (f s)) := Lib.hid fun x1 x2 => by
        rcases HU.out with x3 | x3
        · omega
        · rw [show e - 1 = p - s by omega]; exact x3
      have HT2 := Lib.hid (St.two_left H2.out u2 u3 u4 u5)
      have HT3 : Hid (∀ g, St.Did a mid (St.rot f s m e) g → Two2 key mid e b g) := Lib.hid fun g hg => St.two_right H2.out u1 u2 u3 u5 hg
      have HE : Hid (∀ g2 g3, St.Sorted key a mid g2 → St.Did a mid (St.rot f s m e) g2 → St.Sorted key mid b g3 → St.Did mid b g2 g3 → St.Sorted key a b g3 ∧ St.Did a b f g3) := Lib.hid fun g2 g3 x1 x2 x3 x4 => St.merge_done H2.out u1 u2 u3 u4 u5 HA.out HB.out x1 x2 x3 x4
      have v1 : a < mid := by omega
      have v2 : mid < b := by omega
      have v3 : s ≤ mid := by omega
      have v4 : mid ≤ e := by omega
      have v5 : b ≤ N := hb
      have HEQ := Lib.hid he
      clear he u5 s2
      clear HL HU HA HB hs0 hr0 hlt hp s5 hmid 
      by_cases x1 : s < m
      · by_cases y1 : m < e
        · have w1 : decide (s < m) = true := decide_eq_true x1
          have z1 : decide (m < e) = true := decide_eq_true y1
          by_cases x2 : a < s
          · by_cases y2 : s < mid
            · have w2 : decide (a < s) = true := decide_eq_true x2
              have z2 : decide (s < mid) = true := decide_eq_true y2
              by_cases x3 : mid < e
              · by_cases y3 : e < b
                · have w3 : decide (mid < e) = true := decide_eq_true x3
                  have z3 : decide (e < b) = true := decide_eq_true y3
                  go_wp2_with fail
                  refine (rotate_any bl N cap bb lb lo c n key f s m e _ _ hN HD1.out x1 y1 (by omega)).mono ?_
                  rintro er v1 ⟨rfl, hD1, hK1⟩
                  have G1 := Lib.hid hD1
                  have K1 := Lib.hid (HK.out.trans hK1)
                  clear hD1 hK1
                  go_wp2_with fail
                  refine (IH.out a s mid _ _ (Nat.le_refl _) (by omega) (by omega) x2 y2 G1.out HT2.out).mono ?_
                  rintro er v2 ⟨g2, o2, d2, rfl, hD2, hK2⟩
                  have G2 := Lib.hid hD2
                  have K2 := Lib.hid (K1.out.trans hK2)
                  have O2 := Lib.hid o2
                  have D2 := Lib.hid d2
                  clear hD2 hK2 o2 d2
                  go_wp2_with fail
                  refine (IH.out mid e b _ _ (by omega) (Nat.le_refl _) (by omega) x3 y3 G2.out (HT3.out _ D2.out)).mono ?_
                  rintro er v3 ⟨g3, o3, d3, rfl, hD3, hK3⟩
                  have G3 := Lib.hid hD3
                  have K3 := Lib.hid (K2.out.trans hK3)
                  have O3 := Lib.hid o3
                  have D3 := Lib.hid d3
                  clear hD3 hK3 o3 d3
                  go_wp2_with fail
                  go_end0
                  obtain ⟨fin1, fin2⟩ := HE.out _ _ O2.out D2.out O3.out D3.out
                  exact ⟨_, fin1, fin2, rfl, G3.out, K3.out⟩
                · have w3 : decide (mid < e) = true := decide_eq_true x3
                  have z3 : decide (e < b) = false := decide_eq_false y3
                  go_wp2_with fail
                  refine (rotate_any bl N cap bb lb lo c n key f s m e _ _ hN HD1.out x1 y1 (by omega)).mono ?_
                  rintro er v1 ⟨rfl, hD1, hK1⟩
                  have G1 := Lib.hid hD1
                  have K1 := Lib.hid (HK.out.trans hK1)
                  clear hD1 hK1
                  go_wp2_with fail
                  refine (IH.out a s mid _ _ (Nat.le_refl _) (by omega) (by omega) x2 y2 G1.out HT2.out).mono ?_
                  rintro er v2 ⟨g2, o2, d2, rfl, hD2, hK2⟩
                  have G2 := Lib.hid hD2
                  have K2 := Lib.hid (K1.out.trans hK2)
                  have O2 := Lib.hid o2
                  have D2 := Lib.hid d2
                  clear hD2 hK2 o2 d2
                  have G3 := G2
                  have K3 := K2
                  have O3 := Lib.hid (St.one_side (HT3.out _ D2.out) (by omega))
                  have D3 := Lib.hid (St.Did.refl mid b g2)
                  go_wp2_with fail
                  go_end0
                  obtain ⟨fin1, fin2⟩ := HE.out _ _ O2.out D2.out O3.out D3.out
                  exact ⟨_, fin1, fin2, rfl, G3.out, K3.out⟩
              · have w3 : decide (mid < e) = false := decide_eq_false x3
                go_wp2_with fail
                refine (rotate_any bl N cap bb lb lo c n key f s m e _ _ hN HD1.out x1 y1 (by omega)).mono ?_
                rintro er v1 ⟨rfl, hD1, hK1⟩
                have G1 := Lib.hid hD1
                have K1 := Lib.hid (HK.out.trans hK1)
                clear hD1 hK1
                go_wp2_with fail
                refine (IH.out a s mid _ _ (Nat.le_refl _) (by omega) (by omega) x2 y2 G1.out HT2.out).mono ?_
                rintro er v2 ⟨g2, o2, d2, rfl, hD2, hK2⟩
                have G2 := Lib.hid hD2
                have K2 := Lib.hid (K1.out.trans hK2)
                have O2 := Lib.hid o2
                have D2 := Lib.hid d2
                clear hD2 hK2 o2 d2
                have G3 := G2
                have K3 := K2
                have O3 := Lib.hid (St.one_side (HT3.out _ D2.out) (by omega))
                have D3 := Lib.hid (St.Did.refl mid b g2)
                go_wp2_with fail
                go_end0
                obtain ⟨fin1, fin2⟩ := HE.out _ _ O2.out D2.out O3.out D3.out
                exact ⟨_, fin1, fin2, rfl, G3.out, K3.out⟩
            · have w2 : decide (a < s) = true := decide_eq_true x2
              have z2 : decide (s < mid) = false := decide_eq_false y2
              by_cases x3 : mid < e
              · by_cases y3 : e < b
                · have w3 : decide (mid < e) = true := decide_eq_true x3
                  have z3 : decide (e < b) = true := decide_eq_true y3
                  go_wp2_with fail
                  refine (rotate_any bl N cap bb lb lo c n key f s m e _ _ hN HD1.out x1 y1 (by omega)).mono ?_
                  rintro er v1 ⟨rfl, hD1, hK1⟩
                  have G1 := Lib.hid hD1
                  have K1 := Lib.hid (HK.out.trans hK1)
                  clear hD1 hK1
                  have G2 := G1
                  have K2 := K1
                  have O2 : Hid (St.Sorted key a mid (St.rot f s m e)) := Lib.hid (St.one_side HT2.out (by omega))
                  have D2 := Lib.hid (St.Did.refl a mid (St.rot f s m e))
                  go_wp2_with fail
                  refine (IH.out mid e b _ _ (by omega) (Nat.le_refl _) (by omega) x3 y3 G2.out (HT3.out _ D2.out)).mono ?_
                  rintro er v3 ⟨g3, o3, d3, rfl, hD3, hK3⟩
                  have G3 := Lib.hid hD3
                  have K3 := Lib.hid (K2.out.trans hK3)
                  have O3 := Lib.hid o3
                  have D3 := Lib.hid d3
                  clear hD3 hK3 o3 d3
                  go_wp2_with fail
                  go_end0
                  obtain ⟨fin1, fin2⟩ := HE.out _ _ O2.out D2.out O3.out D3.out
                  exact ⟨_, fin1, fin2, rfl, G3.out, K3.out⟩
                · have w3 : decide (mid < e) = true := decide_eq_true x3
                  have z3 : decide (e < b) = false := decide_eq_false y3
                  go_wp2_with fail
                  refine (rotate_any bl N cap bb lb lo c n key f s m e _ _ hN HD1.out x1 y1 (by omega)).mono ?_
                  rintro er v1 ⟨rfl, hD1, hK1⟩
                  have G1 := Lib.hid hD1
                  have K1 := Lib.hid (HK.out.trans hK1)
                  clear hD1 hK1
                  have G2 := G1
                  have K2 := K1
                  have O2 : Hid (St.Sorted key a mid (St.rot f s m e)) := Lib.hid (St.one_side HT2.out (by omega))
                  have D2 := Lib.hid (St.Did.refl a mid (St.rot f s m e))
                  have G3 := G2
                  have K3 := K2
                  have O3 := Lib.hid (St.one_side (HT3.out _ D2.out) (by omega))
                  have D3 := Lib.hid (St.Did.refl mid b (St.rot f s m e))
                  go_wp2_with fail
                  go_end0
                  obtain ⟨fin1, fin2⟩ := HE.out _ _ O2.out D2.out O3.out D3.out
                  exact ⟨_, fin1, fin2, rfl, G3.out, K3.out⟩
              · have w3 : decide (mid < e) = false := decide_eq_false x3
                go_wp2_with fail
                refine (rotate_any bl N cap bb lb lo c n key f s m e _ _ hN HD1.out x1 y1 (by omega)).mono ?_
                rintro er v1 ⟨rfl, hD1, hK1⟩
                have G1 := Lib.hid hD1
                have K1 := Lib.hid (HK.out.trans hK1)
                clear hD1 hK1
                have G2 := G1
                have K2 := K1
                have O2 : Hid (St.Sorted key a mid (St.rot f s m e)) := Lib.hid (St.one_side HT2.out (by omega))
                have D2 := Lib.hid (St.Did.refl a mid (St.rot f s m e))
                have G3 := G2
                have K3 := K2
                have O3 := Lib.hid (St.one_side (HT3.out _ D2.out) (by omega))
                have D3 := Lib.hid (St.Did.refl mid b (St.rot f s m e))
                go_wp2_with fail
                go_end0
                obtain ⟨fin1, fin2⟩ := HE.out _ _ O2.out D2.out O3.out D3.out
                exact ⟨_, fin1, fin2, rfl, G3.out, K3.out⟩
          · have w2 : decide (a < s) = false := decide_eq_false x2
            by_cases x3 : mid < e
            · by_cases y3 : e < b
              · have w3 : decide (mid < e) = true := decide_eq_true x3
                have z3 : decide (e < b) = true := decide_eq_true y3
                go_wp2_with fail
                refine (rotate_any bl N cap bb lb lo c n key f s m e _ _ hN HD1.out x1 y1 (by omega)).mono ?_
                rintro er v1 ⟨rfl, hD1, hK1⟩
                have G1 := Lib.hid hD1
                have K1 := Lib.hid (HK.out.trans hK1)
                clear hD1 hK1
                have G2 := G1
                have K2 := K1
                have O2 : Hid (St.Sorted key a mid (St.rot f s m e)) := Lib.hid (St.one_side HT2.out (by omega))
                have D2 := Lib.hid (St.Did.refl a mid (St.rot f s m e))
                go_wp2_with fail
                refine (IH.out mid e b _ _ (by omega) (Nat.le_refl _) (by omega) x3 y3 G2.out (HT3.out _ D2.out)).mono ?_
                rintro er v3 ⟨g3, o3, d3, rfl, hD3, hK3⟩
                have G3 := Lib.hid hD3
                have K3 := Lib.hid (K2.out.trans hK3)
                have O3 := Lib.hid o3
                have D3 := Lib.hid d3
                clear hD3 hK3 o3 d3
                go_wp2_with fail
                go_end0
                obtain ⟨fin1, fin2⟩ := HE.out _ _ O2.out D2.out O3.out D3.out
                exact ⟨_, fin1, fin2, rfl, G3.out, K3.out⟩
              · have w3 : decide (mid < e) = true := decide_eq_true x3
                have z3 : decide (e < b) = false := decide_eq_false y3
                go_wp2_with fail
                refine (rotate_any bl N cap bb lb lo c n key f s m e _ _ hN HD1.out x1 y1 (by omega)).mono ?_
                rintro er v1 ⟨rfl, hD1, hK1⟩
                have G1 := Lib.hid hD1
                have K1 := Lib.hid (HK.out.trans hK1)
                clear hD1 hK1
                have G2 := G1
                have K2 := K1
                have O2 : Hid (St.Sorted key a mid (St.rot f s m e)) := Lib.hid (St.one_side HT2.out (by omega))
                have D2 := Lib.hid (St.Did.refl a mid (St.rot f s m e))
                have G3 := G2
                have K3 := K2
                have O3 := Lib.hid (St.one_side (HT3.out _ D2.out) (by omega))
                have D3 := Lib.hid (St.Did.refl mid b (St.rot f s m e))
                go_wp2_with fail
                go_end0
                obtain ⟨fin1, fin2⟩ := HE.out _ _ O2.out D2.out O3.out D3.out
                exact ⟨_, fin1, fin2, rfl, G3.out, K3.out⟩
            · have w3 : decide (mid < e) = false := decide_eq_false x3
              go_wp2_with fail
              refine (rotate_any bl N cap bb lb lo c n key f s m e _ _ hN HD1.out x1 y1 (by omega)).mono ?_
              rintro er v1 ⟨rfl, hD1, hK1⟩
              have G1 := Lib.hid hD1
              have K1 := Lib.hid (HK.out.trans hK1)
              clear hD1 hK1
              have G2 := G1
              have K2 := K1
              have O2 : Hid (St.Sorted key a mid (St.rot f s m e)) := Lib.hid (St.one_side HT2.out (by omega))
              have D2 := Lib.hid (St.Did.refl a mid (St.rot f s m e))
              have G3 := G2
              have K3 := K2
              have O3 := Lib.hid (St.one_side (HT3.out _ D2.out) (by omega))
              have D3 := Lib.hid (St.Did.refl mid b (St.rot f s m e))
              go_wp2_with fail
              go_end0
              obtain ⟨fin1, fin2⟩ := HE.out _ _ O2.out D2.out O3.out D3.out
              exact ⟨_, fin1, fin2, rfl, G3.out, K3.out⟩
        · have w1 : decide (s < m) = true := decide_eq_true x1
          have z1 : decide (m < e) = false := decide_eq_false y1
          by_cases x2 : a < s
          · by_cases y2 : s < mid
            · have w2 : decide (a < s) = true := decide_eq_true x2
              have z2 : decide (s < mid) = true := decide_eq_true y2
              by_cases x3 : mid < e
              · by_cases y3 : e < b
                · have w3 : decide (mid < e) = true := decide_eq_true x3
                  have z3 : decide (e < b) = true := decide_eq_true y3
                  have G1 : Hid (Dat bl N bb lb lo c n key (St.rot f s m e) wr) := Lib.hid (by rw [St.rot_triv f s m e u2 u3 (by omega)]; exact HD1.out)
                  have K1 := HK
                  go_wp2_with fail
                  refine (IH.out a s mid _ _ (Nat.le_refl _) (by omega) (by omega) x2 y2 G1.out HT2.out).mono ?_
                  rintro er v2 ⟨g2, o2, d2, rfl, hD2, hK2⟩
                  have G2 := Lib.hid hD2
                  have K2 := Lib.hid (K1.out.trans hK2)
                  have O2 := Lib.hid o2
                  have D2 := Lib.hid d2
                  clear hD2 hK2 o2 d2
                  go_wp2_with fail
                  refine (IH.out mid e b _ _ (by omega) (Nat.le_refl _) (by omega) x3 y3 G2.out (HT3.out _ D2.out)).mono ?_
                  rintro er v3 ⟨g3, o3, d3, rfl, hD3, hK3⟩
                  have G3 := Lib.hid hD3
                  have K3 := Lib.hid (K2.out.trans hK3)
                  have O3 := Lib.hid o3
                  have D3 := Lib.hid d3
                  clear hD3 hK3 o3 d3
                  go_wp2_with fail
                  go_end0
                  obtain ⟨fin1, fin2⟩ := HE.out _ _ O2.out D2.out O3.out D3.out
                  exact ⟨_, fin1, fin2, rfl, G3.out, K3.out⟩
                · have w3 : decide (mid < e) = true := decide_eq_true x3
                  have z3 : decide (e < b) = false := decide_eq_false y3
                  have G1 : Hid (Dat bl N bb lb lo c n key (St.rot f s m e) wr) := Lib.hid (by rw [St.rot_triv f s m e u2 u3 (by omega)]; exact HD1.out)
                  have K1 := HK
                  go_wp2_with fail
                  refine (IH.out a s mid _ _ (Nat.le_refl _) (by omega) (by omega) x2 y2 G1.out HT2.out).mono ?_
                  rintro er v2 ⟨g2, o2, d2, rfl, hD2, hK2⟩
                  have G2 := Lib.hid hD2
                  have K2 := Lib.hid (K1.out.trans hK2)
                  have O2 := Lib.hid o2
                  have D2 := Lib.hid d2
                  clear hD2 hK2 o2 d2
                  have G3 := G2
                  have K3 := K2
                  have O3 := Lib.hid (St.one_side (HT3.out _ D2.out) (by omega))
                  have D3 := Lib.hid (St.Did.refl mid b g2)
                  go_wp2_with fail
                  go_end0
                  obtain ⟨fin1, fin2⟩ := HE.out _ _ O2.out D2.out O3.out D3.out
                  exact ⟨_, fin1, fin2, rfl, G3.out, K3.out⟩
              · have w3 : decide (mid < e) = false := decide_eq_false x3
                have G1 : Hid (Dat bl N bb lb lo c n key (St.rot f s m e) wr) := Lib.hid (by rw [St.rot_triv f s m e u2 u3 (by omega)]; exact HD1.out)
                have K1 := HK
                go_wp2_with fail
                refine (IH.out a s mid _ _ (Nat.le_refl _) (by omega) (by omega) x2 y2 G1.out HT2.out).mono ?_
                rintro er v2 ⟨g2, o2, d2, rfl, hD2, hK2⟩
                have G2 := Lib.hid hD2
                have K2 := Lib.hid (K1.out.trans hK2)
                have O2 := Lib.hid o2
                have D2 := Lib.hid d2
                clear hD2 hK2 o2 d2
                have G3 := G2
                have K3 := K2
                have O3 := Lib.hid (St.one_side (HT3.out _ D2.out) (by omega))
                have D3 := Lib.hid (St.Did.refl mid b g2)
                go_wp2_with fail
                go_end0
                obtain ⟨fin1, fin2⟩ := HE.out _ _ O2.out D2.out O3.out D3.out
                exact ⟨_, fin1, fin2, rfl, G3.out, K3.out⟩
            · have w2 : decide (a < s) = true := decide_eq_true x2
              have z2 : decide (s < mid) = false := decide_eq_false y2
              by_cases x3 : mid < e
              · by_cases y3 : e < b
                · have w3 : decide (mid < e) = true := decide_eq_true x3
                  have z3 : decide (e < b) = true := decide_eq_true y3
                  have G1 : Hid (Dat bl N bb lb lo c n key (St.rot f s m e) wr) := Lib.hid (by rw [St.rot_triv f s m e u2 u3 (by omega)]; exact HD1.out)
                  have K1 := HK
                  have G2 := G1
                  have K2 := K1
                  have O2 : Hid (St.Sorted key a mid (St.rot f s m e)) := Lib.hid (St.one_side HT2.out (by omega))
                  have D2 := Lib.hid (St.Did.refl a mid (St.rot f s m e))
                  go_wp2_with fail
                  refine (IH.out mid e b _ _ (by omega) (Nat.le_refl _) (by omega) x3 y3 G2.out (HT3.out _ D2.out)).mono ?_
                  rintro er v3 ⟨g3, o3, d3, rfl, hD3, hK3⟩
                  have G3 := Lib.hid hD3
                  have K3 := Lib.hid (K2.out.trans hK3)
                  have O3 := Lib.hid o3
                  have D3 := Lib.hid d3
                  clear hD3 hK3 o3 d3
                  go_wp2_with fail
                  go_end0
                  obtain ⟨fin1, fin2⟩ := HE.out _ _ O2.out D2.out O3.out D3.out
                  exact ⟨_, fin1, fin2, rfl, G3.out, K3.out⟩
                · have w3 : decide (mid < e) = true := decide_eq_true x3
                  have z3 : decide (e < b) = false := decide_eq_false y3
                  have G1 : Hid (Dat bl N bb lb lo c n key (St.rot f s m e) wr) := Lib.hid (by rw [St.rot_triv f s m e u2 u3 (by omega)]; exact HD1.out)
                  have K1 := HK
                  have G2 := G1
                  have K2 := K1
                  have O2 : Hid (St.Sorted key a mid (St.rot f s m e)) := Lib.hid (St.one_side HT2.out (by omega))
                  have D2 := Lib.hid (St.Did.refl a mid (St.rot f s m e))
                  have G3 := G2
                  have K3 := K2
                  have O3 := Lib.hid (St.one_side (HT3.out _ D2.out) (by omega))
                  have D3 := Lib.hid (St.Did.refl mid b (St.rot f s m e))
                  go_wp2_with fail
                  go_end0
                  obtain ⟨fin1, fin2⟩ := HE.out _ _ O2.out D2.out O3.out D3.out
                  exact ⟨_, fin1, fin2, rfl, G3.out, K3.out⟩
              · have w3 : decide (mid < e) = false := decide_eq_false x3
                have G1 : Hid (Dat bl N bb lb lo c n key (St.rot f s m e) wr) := Lib.hid (by rw [St.rot_triv f s m e u2 u3 (by omega)]; exact HD1.out)
                have K1 := HK
                have G2 := G1
                have K2 := K1
                have O2 : Hid (St.Sorted key a mid (St.rot f s m e)) := Lib.hid (St.one_side HT2.out (by omega))
                have D2 := Lib.hid (St.Did.refl a mid (St.rot f s m e))
                have G3 := G2
                have K3 := K2
                have O3 := Lib.hid (St.one_side (HT3.out _ D2.out) (by omega))
                have D3 := Lib.hid (St.Did.refl mid b (St.rot f s m e))
                go_wp2_with fail
                go_end0
                obtain ⟨fin1, fin2⟩ := HE.out _ _ O2.out D2.out O3.out D3.out
                exact ⟨_, fin1, fin2, rfl, G3.out, K3.out⟩
          · have w2 : decide (a < s) = false := decide_eq_false x2
            by_cases x3 : mid < e
            · by_cases y3 : e < b
              · have w3 : decide (mid < e) = true := decide_eq_true x3
                have z3 : decide (e < b) = true := decide_eq_true y3
                have G1 : Hid (Dat bl N bb lb lo c n key (St.rot f s m e) wr) := Lib.hid (by rw [St.rot_triv f s m e u2 u3 (by omega)]; exact HD1.out)
                have K1 := HK
                have G2 := G1
                have K2 := K1
                have O2 : Hid (St.Sorted key a mid (St.rot f s m e)) := Lib.hid (St.one_side HT2.out (by omega))
                have D2 := Lib.hid (St.Did.refl a mid (St.rot f s m e))
                go_wp2_with fail
                refine (IH.out mid e b _ _ (by omega) (Nat.le_refl _) (by omega) x3 y3 G2.out (HT3.out _ D2.out)).mono ?_
                rintro er v3 ⟨g3, o3, d3, rfl, hD3, hK3⟩
                have G3 := Lib.hid hD3
                have K3 := Lib.hid (K2.out.trans hK3)
                have O3 := Lib.hid o3
                have D3 := Lib.hid d3
                clear hD3 hK3 o3 d3
                go_wp2_with fail
                go_end0
                obtain ⟨fin1, fin2⟩ := HE.out _ _ O2.out D2.out O3.out D3.out
                exact ⟨_, fin1, fin2, rfl, G3.out, K3.out⟩
              · have w3 : decide (mid < e) = true := decide_eq_true x3
                have z3 : decide (e < b) = false := decide_eq_false y3
                have G1 : Hid (Dat bl N bb lb lo c n key (St.rot f s m e) wr) := Lib.hid (by rw [St.rot_triv f s m e u2 u3 (by omega)]; exact HD1.out)
                have K1 := HK
                have G2 := G1
                have K2 := K1
                have O2 : Hid (St.Sorted key a mid (St.rot f s m e)) := Lib.hid (St.one_side HT2.out (by omega))
                have D2 := Lib.hid (St.Did.refl a mid (St.rot f s m e))
                have G3 := G2
                have K3 := K2
                have O3 := Lib.hid (St.one_side (HT3.out _ D2.out) (by omega))
                have D3 := Lib.hid (St.Did.refl mid b (St.rot f s m e))
                go_wp2_with fail
                go_end0
                obtain ⟨fin1, fin2⟩ := HE.out _ _ O2.out D2.out O3.out D3.out
                exact ⟨_, fin1, fin2, rfl, G3.out, K3.out⟩
            · have w3 : decide (mid < e) = false := decide_eq_false x3
              have G1 : Hid (Dat bl N bb lb lo c n key (St.rot f s m e) wr) := Lib.hid (by rw [St.rot_triv f s m e u2 u3 (by omega)]; exact HD1.out)
              have K1 := HK
              have G2 := G1
              have K2 := K1
              have O2 : Hid (St.Sorted key a mid (St.rot f s m e)) := Lib.hid (St.one_side HT2.out (by omega))
              have D2 := Lib.hid (St.Did.refl a mid (St.rot f s m e))
              have G3 := G2
              have K3 := K2
              have O3 := Lib.hid (St.one_side (HT3.out _ D2.out) (by omega))
              have D3 := Lib.hid (St.Did.refl mid b (St.rot f s m e))
              go_wp2_with fail
              go_end0
              obtain ⟨fin1, fin2⟩ := HE.out _ _ O2.out D2.out O3.out D3.out
              exact ⟨_, fin1, fin2, rfl, G3.out, K3.out⟩
      · have w1 : decide (s < m) = false := decide_eq_false x1
        by_cases x2 : a < s
        · by_cases y2 : s < mid
          · have w2 : decide (a < s) = true := decide_eq_true x2
            have z2 : decide (s < mid) = true := decide_eq_true y2
            by_cases x3 : mid < e
            · by_cases y3 : e < b
              · have w3 : decide (mid < e) = true := decide_eq_true x3
                have z3 : decide (e < b) = true := decide_eq_true y3
                have G1 : Hid (Dat bl N bb lb lo c n key (St.rot f s m e) wr) := Lib.hid (by rw [St.rot_triv f s m e u2 u3 (by omega)]; exact HD1.out)
                have K1 := HK
                go_wp2_with fail
                refine (IH.out a s mid _ _ (Nat.le_refl _) (by omega) (by omega) x2 y2 G1.out HT2.out).mono ?_
                rintro er v2 ⟨g2, o2, d2, rfl, hD2, hK2⟩
                have G2 := Lib.hid hD2
                have K2 := Lib.hid (K1.out.trans hK2)
                have O2 := Lib.hid o2
                have D2 := Lib.hid d2
                clear hD2 hK2 o2 d2
                go_wp2_with fail
                refine (IH.out mid e b _ _ (by omega) (Nat.le_refl _) (by omega) x3 y3 G2.out (HT3.out _ D2.out)).mono ?_
                rintro er v3 ⟨g3, o3, d3, rfl, hD3, hK3⟩
                have G3 := Lib.hid hD3
                have K3 := Lib.hid (K2.out.trans hK3)
                have O3 := Lib.hid o3
                have D3 := Lib.hid d3
                clear hD3 hK3 o3 d3
                go_wp2_with fail
                go_end0
                obtain ⟨fin1, fin2⟩ := HE.out _ _ O2.out D2.out O3.out D3.out
                exact ⟨_, fin1, fin2, rfl, G3.out, K3.out⟩
              · have w3 : decide (mid < e) = true := decide_eq_true x3
                have z3 : decide (e < b) = false := decide_eq_false y3
                have G1 : Hid (Dat bl N bb lb lo c n key (St.rot f s m e) wr) := Lib.hid (by rw [St.rot_triv f s m e u2 u3 (by omega)]; exact HD1.out)
                have K1 := HK
                go_wp2_with fail
                refine (IH.out a s mid _ _ (Nat.le_refl _) (by omega) (by omega) x2 y2 G1.out HT2.out).mono ?_
                rintro er v2 ⟨g2, o2, d2, rfl, hD2, hK2⟩
                have G2 := Lib.hid hD2
                have K2 := Lib.hid (K1.out.trans hK2)
                have O2 := Lib.hid o2
                have D2 := Lib.hid d2
                clear hD2 hK2 o2 d2
                have G3 := G2
                have K3 := K2
                have O3 := Lib.hid (St.one_side (HT3.out _ D2.out) (by omega))
                have D3 := Lib.hid (St.Did.refl mid b g2)
                go_wp2_with fail
                go_end0
                obtain ⟨fin1, fin2⟩ := HE.out _ _ O2.out D2.out O3.out D3.out
                exact ⟨_, fin1, fin2, rfl, G3.out, K3.out⟩
            · have w3 : decide (mid < e) = false := decide_eq_false x3
              have G1 : Hid (Dat bl N bb lb lo c n key (St.rot f s m e) wr) := Lib.hid (by rw [St.rot_triv f s m e u2 u3 (by omega)]; exact HD1.out)
              have K1 := HK
              go_wp2_with fail
              refine (IH.out a s mid _ _ (Nat.le_refl _) (by omega) (by omega) x2 y2 G1.out HT2.out).mono ?_
              rintro er v2 ⟨g2, o2, d2, rfl, hD2, hK2⟩
              have G2 := Lib.hid hD2
              have K2 := Lib.hid (K1.out.trans hK2)
              have O2 := Lib.hid o2
              have D2 := Lib.hid d2
              clear hD2 hK2 o2 d2
              have G3 := G2
              have K3 := K2
              have O3 := Lib.hid (St.one_side (HT3.out _ D2.out) (by omega))
              have D3 := Lib.hid (St.Did.refl mid b g2)
              go_wp2_with fail
              go_end0
              obtain ⟨fin1, fin2⟩ := HE.out _ _ O2.out D2.out O3.out D3.out
              exact ⟨_, fin1, fin2, rfl, G3.out, K3.out⟩
          · have w2 : decide (a < s) = true := decide_eq_true x2
            have z2 : decide (s < mid) = false := decide_eq_false y2
            by_cases x3 : mid < e
            · by_cases y3 : e < b
              · have w3 : decide (mid < e) = true := decide_eq_true x3
                have z3 : decide (e < b) = true := decide_eq_true y3
                have G1 : Hid (Dat bl N bb lb lo c n key (St.rot f s m e) wr) := Lib.hid (by rw [St.rot_triv f s m e u2 u3 (by omega)]; exact HD1.out)
                have K1 := HK
                have G2 := G1
                have K2 := K1
                have O2 : Hid (St.Sorted key a mid (St.rot f s m e)) := Lib.hid (St.one_side HT2.out (by omega))
                have D2 := Lib.hid (St.Did.refl a mid (St.rot f s m e))
                go_wp2_with fail
                refine (IH.out mid e b _ _ (by omega) (Nat.le_refl _) (by omega) x3 y3 G2.out (HT3.out _ D2.out)).mono ?_
                rintro er v3 ⟨g3, o3, d3, rfl, hD3, hK3⟩
                have G3 := Lib.hid hD3
                have K3 := Lib.hid (K2.out.trans hK3)
                have O3 := Lib.hid o3
                have D3 := Lib.hid d3
                clear hD3 hK3 o3 d3
                go_wp2_with fail
                go_end0
                obtain ⟨fin1, fin2⟩ := HE.out _ _ O2.out D2.out O3.out D3.out
                exact ⟨_, fin1, fin2, rfl, G3.out, K3.out⟩
              · have w3 : decide (mid < e) = true := decide_eq_true x3
                have z3 : decide (e < b) = false := decide_eq_false y3
                have G1 : Hid (Dat bl N bb lb lo c n key (St.rot f s m e) wr) := Lib.hid (by rw [St.rot_triv f s m e u2 u3 (by omega)]; exact HD1.out)
                have K1 := HK
                have G2 := G1
                have K2 := K1
                have O2 : Hid (St.Sorted key a mid (St.rot f s m e)) := Lib.hid (St.one_side HT2.out (by omega))
                have D2 := Lib.hid (St.Did.refl a mid (St.rot f s m e))
                have G3 := G2
                have K3 := K2
                have O3 := Lib.hid (St.one_side (HT3.out _ D2.out) (by omega))
                have D3 := Lib.hid (St.Did.refl mid b (St.rot f s m e))
                go_wp2_with fail
                go_end0
                obtain ⟨fin1, fin2⟩ := HE.out _ _ O2.out D2.out O3.out D3.out
                exact ⟨_, fin1, fin2, rfl, G3.out, K3.out⟩
            · have w3 : decide (mid < e) = false := decide_eq_false x3
              have G1 : Hid (Dat bl N bb lb lo c n key (St.rot f s m e) wr) := Lib.hid (by rw [St.rot_triv f s m e u2 u3 (by omega)]; exact HD1.out)
              have K1 := HK
              have G2 := G1
              have K2 := K1
              have O2 : Hid (St.Sorted key a mid (St.rot f s m e)) := Lib.hid (St.one_side HT2.out (by omega))
              have D2 := Lib.hid (St.Did.refl a mid (St.rot f s m e))
              have G3 := G2
              have K3 := K2
              have O3 := Lib.hid (St.one_side (HT3.out _ D2.out) (by omega))
              have D3 := Lib.hid (St.Did.refl mid b (St.rot f s m e))
              go_wp2_with fail
              go_end0
              obtain ⟨fin1, fin2⟩ := HE.out _ _ O2.out D2.out O3.out D3.out
              exact ⟨_, fin1, fin2, rfl, G3.out, K3.out⟩
        · have w2 : decide (a < s) = false := decide_eq_false x2
          by_cases x3 : mid < e
          · by_cases y3 : e < b
            · have w3 : decide (mid < e) = true := decide_eq_true x3
              have z3 : decide (e < b) = true := decide_eq_true y3
              have G1 : Hid (Dat bl N bb lb lo c n key (St.rot f s m e) wr) := Lib.hid (by rw [St.rot_triv f s m e u2 u3 (by omega)]; exact HD1.out)
              have K1 := HK
              have G2 := G1
              have K2 := K1
              have O2 : Hid (St.Sorted key a mid (St.rot f s m e)) := Lib.hid (St.one_side HT2.out (by omega))
              have D2 := Lib.hid (St.Did.refl a mid (St.rot f s m e))
              go_wp2_with fail
              refine (IH.out mid e b _ _ (by omega) (Nat.le_refl _) (by omega) x3 y3 G2.out (HT3.out _ D2.out)).mono ?_
              rintro er v3 ⟨g3, o3, d3, rfl, hD3, hK3⟩
              have G3 := Lib.hid hD3
              have K3 := Lib.hid (K2.out.trans hK3)
              have O3 := Lib.hid o3
              have D3 := Lib.hid d3
              clear hD3 hK3 o3 d3
              go_wp2_with fail
              go_end0
              obtain ⟨fin1, fin2⟩ := HE.out _ _ O2.out D2.out O3.out D3.out
              exact ⟨_, fin1, fin2, rfl, G3.out, K3.out⟩
            · have w3 : decide (mid < e) = true := decide_eq_true x3
              have z3 : decide (e < b) = false := decide_eq_false y3
              have G1 : Hid (Dat bl N bb lb lo c n key (St.rot f s m e) wr) := Lib.hid (by rw [St.rot_triv f s m e u2 u3 (by omega)]; exact HD1.out)
              have K1 := HK
              have G2 := G1
              have K2 := K1
              have O2 : Hid (St.Sorted key a mid (St.rot f s m e)) := Lib.hid (St.one_side HT2.out (by omega))
              have D2 := Lib.hid (St.Did.refl a mid (St.rot f s m e))
              have G3 := G2
              have K3 := K2
              have O3 := Lib.hid (St.one_side (HT3.out _ D2.out) (by omega))
              have D3 := Lib.hid (St.Did.refl mid b (St.rot f s m e))
              go_wp2_with fail
              go_end0
              obtain ⟨fin1, fin2⟩ := HE.out _ _ O2.out D2.out O3.out D3.out
              exact ⟨_, fin1, fin2, rfl, G3.out, K3.out⟩
          · have w3 : decide (mid < e) = false := decide_eq_false x3
            have G1 : Hid (Dat bl N bb lb lo c n key (St.rot f s m e) wr) := Lib.hid (by rw [St.rot_triv f s m e u2 u3 (by omega)]; exact HD1.out)
            have K1 := HK
            have G2 := G1
            have K2 := K1
            have O2 : Hid (St.Sorted key a mid (St.rot f s m e)) := Lib.hid (St.one_side HT2.out (by omega))
            have D2 := Lib.hid (St.Did.refl a mid (St.rot f s m e))
            have G3 := G2
            have K3 := K2
            have O3 := Lib.hid (St.one_side (HT3.out _ D2.out) (by omega))
            have D3 := Lib.hid (St.Did.refl mid b (St.rot f s m e))
            go_wp2_with fail
            go_end0
            obtain ⟨fin1, fin2⟩ := HE.out _ _ O2.out D2.out O3.out D3.out
            exact ⟨_, fin1, fin2, rfl, G3.out, K3.out⟩

set_option maxHeartbeats 6400000 in
set_option maxRecDepth 100000 in
theorem symMerge_big (bl N cap bb lb lo c n : Nat) (key : Nat → Int) (f : Nat → Nat) (a m b mid : Nat) (w : World) (hN : N ≤ 200) (hd : Dat bl N bb lb lo c n key f w) (ham : a + 1 < m) (hmb : m + 1 < b) (hb : b ≤ N) (h2 : Two2 key a m b f) (hmid : mid = (a + b) / 2) (hm : mid < m)
    (ih : ∀ (a' m' b' : Nat) (g : Nat → Nat) (W : World), a ≤ a' → b' ≤ b → b' - a' < b - a → a' < m' → m' < b' → Dat bl N bb lb lo c n key g W → Two2 key a' m' b' g →
      Calls Try.prog 37 #[.slice (some ⟨bl, 0, none⟩) N cap, .int .i64 (a' : Int), .int .i64 (m' : Int), .int .i64 (b' : Int), cmpF bb] W (MadeS bl N bb lb lo c n key a' b' g W)) :
    Calls Try.prog 37 #[.slice (some ⟨bl, 0, none⟩) N cap, .int .i64 (a : Int), .int .i64 (m : Int), .int .i64 (b : Int), cmpF bb] w (MadeS bl N bb lb lo c n key a b f w) := by
  have HD := Lib.hid hd
  have H2 := Lib.hid h2
  have IH := Lib.hid ih
  clear hd h2 ih
  have s0 : ((m : Int) - (a : Int) == 1) = false := by rw [beq_eq_false_iff_ne]; omega
  have s1 : ((b : Int) - (m : Int) == 1) = false := by rw [beq_eq_false_iff_ne]; omega
  have s2 : ((a : Int) + (b : Int)) / 2 = (mid : Int) := by omega
  have s3 : decide (mid < m) = true := decide_eq_true hm
  have s4 : (mid : Int) + (m : Int) - (b : Int) = ((mid + m - b : Nat) : Int) := by omega
  obtain ⟨z, hz0⟩ : ∃ z, z = mid + m - b := ⟨_, rfl⟩
  rw [← hz0] at s4
  have hzl : z ≤ mid := by omega
  have HZ := Lib.hid hz0
  clear hz0
  obtain ⟨p, hp0⟩ : ∃ p, p = mid + m - 1 := ⟨_, rfl⟩
  have s5 : (mid : Int) + (m : Int) - 1 = (p : Int) := by omega
  have HP := Lib.hid hp0
  have HMID := Lib.hid hmid
  clear hp0 hmid
  go_enter Try.func37, Try.ntmps37
  go_wp2_with fail
  go_loopw [20, 21] (fun x y wr => ∃ s r : Nat, z ≤ s ∧ s ≤ r ∧ r ≤ mid ∧ x = .int .i64 (s : Int) ∧ y = .int .i64 (r : Int) ∧ (s = z ∨ St.R key (f (s - 1)) (f (mid + m - s))) ∧ (r = mid ∨ St.R key (f (p - r)) (f r)) ∧ Dat bl N bb lb lo c n key f wr ∧ Keeps (Ro bl) w wr) (fun x y _ => (intOf y).toNat - (intOf x).toNat)
  case atStart => exact ⟨z, mid, Nat.le_refl _, by omega, Nat.le_refl _, rfl, rfl, Or.inl rfl, Or.inl rfl, HD.out, Keeps.refl _ _⟩
  case round =>
    obtain ⟨s, r, hs0, hsr, hr0, rfl, rfl, hlo, hup, hD, hK⟩ := hrel
    have HL := Lib.hid hlo
    have HU := Lib.hid hup
    have HD1 := Lib.hid hD
    have HK := Lib.hid hK
    have hp := HP.out
    have hz := HZ.out
    have hmid := HMID.out
    clear hlo hup hD hK
    by_cases hlt : s < r
    · obtain ⟨h, hh⟩ : ∃ h, h = (s + r) / 2 := ⟨_, rfl⟩
      have h1 : s ≤ h := by omega
      have h2 : h < r := by omega
      obtain ⟨q, hq⟩ : ∃ q, q = p - h := ⟨_, rfl⟩
      have eh : ((s : Int) + (r : Int)) / 2 = (h : Int) := by omega
      have eq : (p : Int) - (h : Int) = (q : Int) := by omega
      have k1 : a ≤ h := by omega
      have k2 : h < m := by omega
      have k3 : m ≤ q := by omega
      have k4 : q < b := by omega
      have e1 : 0 ≤ (h : Int) := by omega
      have e2 : (h : Int) < (N : Int) := by omega
      have e3 : (q : Int) < (N : Int) := by omega
      have e4 : 0 ≤ (q : Int) := by omega
      obtain ⟨c1, _⟩ := HD1.out.row h (by omega)
      obtain ⟨c2, _⟩ := HD1.out.row q (by omega)
      have hC := Lib.hid fun t => cmp_at HD1.out q h t (by omega) (by omega)
      have hid := H2.out.ids h q k1 k2 k3 k4
      by_cases hl : key (f q) < key (f h)
      · have t1 : decide (cmpV (key (f q)) (key (f h)) < 0) = true := by rw [cmpV_neg, decide_eq_true hl]
        have HU' : Hid (h = mid ∨ St.R key (f (p - h)) (f h)) := Lib.hid (Or.inr (by rw [← hq]; exact St.R.lt hl))
        clear hl hh hid hq hp hmid hz s2 s4 s5
        generalize cmpV (key (f q)) (key (f h)) = V at hC t1
        go_wp2_with fail
        go_quiet ((go_at_call 9; exact hC.out _))
        go_wp2_with fail
        go_roundw
        case rel => exact ⟨s, h, hs0, h1, by omega, rfl, rfl, HL.out, HU'.out, HD1.out.drewN _, HK.out.trans (keeps_d bl _ _)⟩
        case measure => simp [intOf]; omega
      · have t1 : decide (cmpV (key (f q)) (key (f h)) < 0) = false := by rw [cmpV_neg, decide_eq_false hl]
        have HL' : Hid (h + 1 = z ∨ St.R key (f (h + 1 - 1)) (f (mid + m - (h + 1)))) := Lib.hid (Or.inr (by rw [Nat.add_sub_cancel, show mid + m - (h + 1) = q by omega]; exact St.R.of_not hl hid))
        clear hl hh hid hq hp hmid hz s2 s4 s5
        generalize cmpV (key (f q)) (key (f h)) = V at hC t1
        go_wp2_with fail
        go_quiet ((go_at_call 9; exact hC.out _))
        go_wp2_with fail
        go_roundw
        case rel => exact ⟨h + 1, r, by omega, by omega, hr0, by go_num, rfl, HL'.out, HU.out, HD1.out.drewN _, HK.out.trans (keeps_d bl _ _)⟩
        case measure => simp [intOf]; omega
    · obtain rfl : s = r := by omega
      obtain ⟨e, he⟩ : ∃ e, e = mid + m - s := ⟨_, rfl⟩
      have u1 : a ≤ s := by omega
      have u2 : s ≤ m := by omega
      have u3 : m ≤ e := by omega
      have u4 : e ≤ b := by omega
      have u5 : mid = s + (e - m) := by omega
      have ee : (mid : Int) + (m : Int) - (s : Int) = (e : Int) := by omega
      have HA : Hid (a < s → e < b → St.R key (f (s - 1)) (f e)) := Lib.hid fun x1 x2 => by
        rcases HL.out with x3 | x3
        · omega
        · rw [he]; exact x3
      have HB : Hid (s < m → m < e → St.R key (f (e - 1)) (f s)) := Lib.hid fun x1 x2 => by
        rcases HU.out with x3 | x3
        · omega
        · rw [show e - 1 = p - s by omega]; exact x3
      have HT2 := Lib.hid (St.two_left H2.out u2 u3 u4 u5)
      have HT3 : Hid (∀ g, St.Did a mid (St.rot f s m e) g → Two2 key mid e b g) := Lib.hid fun g hg => St.two_right H2.out u1 u2 u3 u5 hg
      have HE : Hid (∀ g2 g3, St.Sorted key a mid g2 → St.Did a mid (St.rot f s m e) g2 → St.Sorted key mid b g3 → St.Did mid b g2 g3 → St.Sorted key a b g3 ∧ St.Did a b f g3) := Lib.hid fun g2 g3 x1 x2 x3 x4 => St.merge_done H2.out u1 u2 u3 u4 u5 HA.out HB.out x1 x2 x3 x4
      have v1 : a < mid := by omega
      have v2 : mid < b := by omega
      have v3 : s ≤ mid := by omega
      have v4 : mid ≤ e := by omega
      have v5 : b ≤ N := hb
      have HEQ := Lib.hid he
      clear he u5 s2
      clear HL HU HA HB hs0 hr0 hlt hp s5 hmid hz s4
      by_cases x1 : s < m
      · by_cases y1 : m < e
        · have w1 : decide (s < m) = true := decide_eq_true x1
          have z1 : decide (m < e) = true := decide_eq_true y1
          by_cases x2 : a < s
          · by_cases y2 : s < mid
            · have w2 : decide (a < s) = true := decide_eq_true x2
              have z2 : decide (s < mid) = true := decide_eq_true y2
              by_cases x3 : mid < e
              · by_cases y3 : e < b
                · have w3 : decide (mid < e) = true := decide_eq_true x3
                  have z3 : decide (e < b) = true := decide_eq_true y3
                  go_wp2_with fail
                  refine (rotate_any bl N cap bb lb lo c n key f s m e _ _ hN HD1.out x1 y1 (by omega)).mono ?_
                  rintro er v1 ⟨rfl, hD1, hK1⟩
                  have G1 := Lib.hid hD1
                  have K1 := Lib.hid (HK.out.trans hK1)
                  clear hD1 hK1
                  go_wp2_with fail
                  refine (IH.out a s mid _ _ (Nat.le_refl _) (by omega) (by omega) x2 y2 G1.out HT2.out).mono ?_
                  rintro er v2 ⟨g2, o2, d2, rfl, hD2, hK2⟩
                  have G2 := Lib.hid hD2
                  have K2 := Lib.hid (K1.out.trans hK2)
                  have O2 := Lib.hid o2
                  have D2 := Lib.hid d2
                  clear hD2 hK2 o2 d2
                  go_wp2_with fail
                  refine (IH.out mid e b _ _ (by omega) (Nat.le_refl _) (by omega) x3 y3 G2.out (HT3.out _ D2.out)).mono ?_
                  rintro er v3 ⟨g3, o3, d3, rfl, hD3, hK3⟩
                  have G3 := Lib.hid hD3
                  have K3 := Lib.hid (K2.out.trans hK3)
                  have O3 := Lib.hid o3
                  have D3 := Lib.hid d3
                  clear hD3 hK3 o3 d3
                  go_wp2_with fail
                  go_end0
                  obtain ⟨fin1, fin2⟩ := HE.out _ _ O2.out D2.out O3.out D3.out
                  exact ⟨_, fin1, fin2, rfl, G3.out, K3.out⟩
                · have w3 : decide (mid < e) = true := decide_eq_true x3
                  have z3 : decide (e < b) = false := decide_eq_false y3
                  go_wp2_with fail
                  refine (rotate_any bl N cap bb lb lo c n key f s m e _ _ hN HD1.out x1 y1 (by omega)).mono ?_
                  rintro er v1 ⟨rfl, hD1, hK1⟩
                  have G1 := Lib.hid hD1
                  have K1 := Lib.hid (HK.out.trans hK1)
                  clear hD1 hK1
                  go_wp2_with fail
                  refine (IH.out a s mid _ _ (Nat.le_refl _) (by omega) (by omega) x2 y2 G1.out HT2.out).mono ?_
                  rintro er v2 ⟨g2, o2, d2, rfl, hD2, hK2⟩
                  have G2 := Lib.hid hD2
                  have K2 := Lib.hid (K1.out.trans hK2)
                  have O2 := Lib.hid o2
                  have D2 := Lib.hid d2
                  clear hD2 hK2 o2 d2
                  have G3 := G2
                  have K3 := K2
                  have O3 := Lib.hid (St.one_side (HT3.out _ D2.out) (by omega))
                  have D3 := Lib.hid (St.Did.refl mid b g2)
                  go_wp2_with fail
                  go_end0
                  obtain ⟨fin1, fin2⟩ := HE.out _ _ O2.out D2.out O3.out D3.out
                  exact ⟨_, fin1, fin2, rfl, G3.out, K3.out⟩
              · have w3 : decide (mid < e) = false := decide_eq_false x3
                go_wp2_with fail
                refine (rotate_any bl N cap bb lb lo c n key f s m e _ _ hN HD1.out x1 y1 (by omega)).mono ?_
                rintro er v1 ⟨rfl, hD1, hK1⟩
                have G1 := Lib.hid hD1
                have K1 := Lib.hid (HK.out.trans hK1)
                clear hD1 hK1
                go_wp2_with fail
                refine (IH.out a s mid _ _ (Nat.le_refl _) (by omega) (by omega) x2 y2 G1.out HT2.out).mono ?_
                rintro er v2 ⟨g2, o2, d2, rfl, hD2, hK2⟩
                have G2 := Lib.hid hD2
                have K2 := Lib.hid (K1.out.trans hK2)
                have O2 := Lib.hid o2
                have D2 := Lib.hid d2
                clear hD2 hK2 o2 d2
                have G3 := G2
                have K3 := K2
                have O3 := Lib.hid (St.one_side (HT3.out _ D2.out) (by omega))
                have D3 := Lib.hid (St.Did.refl mid b g2)
                go_wp2_with fail
                go_end0
                obtain ⟨fin1, fin2⟩ := HE.out _ _ O2.out D2.out O3.out D3.out
                exact ⟨_, fin1, fin2, rfl, G3.out, K3.out⟩
            · have w2 : decide (a < s) = true := decide_eq_true x2
              have z2 : decide (s < mid) = false := decide_eq_false y2
              by_cases x3 : mid < e
              · by_cases y3 : e < b
                · have w3 : decide (mid < e) = true := decide_eq_true x3
                  have z3 : decide (e < b) = true := decide_eq_true y3
                  go_wp2_with fail
                  refine (rotate_any bl N cap bb lb lo c n key f s m e _ _ hN HD1.out x1 y1 (by omega)).mono ?_
                  rintro er v1 ⟨rfl, hD1, hK1⟩
                  have G1 := Lib.hid hD1
                  have K1 := Lib.hid (HK.out.trans hK1)
                  clear hD1 hK1
                  have G2 := G1
                  have K2 := K1
                  have O2 : Hid (St.Sorted key a mid (St.rot f s m e)) := Lib.hid (St.one_side HT2.out (by omega))
                  have D2 := Lib.hid (St.Did.refl a mid (St.rot f s m e))
                  go_wp2_with fail
                  refine (IH.out mid e b _ _ (by omega) (Nat.le_refl _) (by omega) x3 y3 G2.out (HT3.out _ D2.out)).mono ?_
                  rintro er v3 ⟨g3, o3, d3, rfl, hD3, hK3⟩
                  have G3 := Lib.hid hD3
                  have K3 := Lib.hid (K2.out.trans hK3)
                  have O3 := Lib.hid o3
                  have D3 := Lib.hid d3
                  clear hD3 hK3 o3 d3
                  go_wp2_with fail
                  go_end0
                  obtain ⟨fin1, fin2⟩ := HE.out _ _ O2.out D2.out O3.out D3.out
                  exact ⟨_, fin1, fin2, rfl, G3.out, K3.out⟩
                · have w3 : decide (mid < e) = true := decide_eq_true x3
                  have z3 : decide (e < b) = false := decide_eq_false y3
                  go_wp2_with fail
                  refine (rotate_any bl N cap bb lb lo c n key f s m e _ _ hN HD1.out x1 y1 (by omega)).mono ?_
                  rintro er v1 ⟨rfl, hD1, hK1⟩
                  have G1 := Lib.hid hD1
                  have K1 := Lib.hid (HK.out.trans hK1)
                  clear hD1 hK1
                  have G2 := G1
                  have K2 := K1
                  have O2 : Hid (St.Sorted key a mid (St.rot f s m e)) := Lib.hid (St.one_side HT2.out (by omega))
                  have D2 := Lib.hid (St.Did.refl a mid (St.rot f s m e))
                  have G3 := G2
                  have K3 := K2
                  have O3 := Lib.hid (St.one_side (HT3.out _ D2.out) (by omega))
                  have D3 := Lib.hid (St.Did.refl mid b (St.rot f s m e))
                  go_wp2_with fail
                  go_end0
                  obtain ⟨fin1, fin2⟩ := HE.out _ _ O2.out D2.out O3.out D3.out
                  exact ⟨_, fin1, fin2, rfl, G3.out, K3.out⟩
              · have w3 : decide (mid < e) = false := decide_eq_false x3
                go_wp2_with fail
                refine (rotate_any bl N cap bb lb lo c n key f s m e _ _ hN HD1.out x1 y1 (by omega)).mono ?_
                rintro er v1 ⟨rfl, hD1, hK1⟩
                have G1 := Lib.hid hD1
                have K1 := Lib.hid (HK.out.trans hK1)
                clear hD1 hK1
                have G2 := G1
                have K2 := K1
                have O2 : Hid (St.Sorted key a mid (St.rot f s m e)) := Lib.hid (St.one_side HT2.out (by omega))
                have D2 := Lib.hid (St.Did.refl a mid (St.rot f s m e))
                have G3 := G2
                have K3 := K2
                have O3 := Lib.hid (St.one_side (HT3.out _ D2.out) (by omega))
                have D3 := Lib.hid (St.Did.refl mid b (St.rot f s m e))
                go_wp2_with fail
                go_end0
                obtain ⟨fin1, fin2⟩ := HE.out _ _ O2.out D2.out O3.out D3.out
                exact ⟨_, fin1, fin2, rfl, G3.out, K3.out⟩
          · have w2 : decide (a < s) = false := decide_eq_false x2
            by_cases x3 : mid < e
            · by_cases y3 : e < b
              · have w3 : decide (mid < e) = true := decide_eq_true x3
                have z3 : decide (e < b) = true := decide_eq_true y3
                go_wp2_with fail
                refine (rotate_any bl N cap bb lb lo c n key f s m e _ _ hN HD1.out x1 y1 (by omega)).mono ?_
                rintro er v1 ⟨rfl, hD1, hK1⟩
                have G1 := Lib.hid hD1
                have K1 := Lib.hid (HK.out.trans hK1)
                clear hD1 hK1
                have G2 := G1
                have K2 := K1
                have O2 : Hid (St.Sorted key a mid (St.rot f s m e)) := Lib.hid (St.one_side HT2.out (by omega))
                have D2 := Lib.hid (St.Did.refl a mid (St.rot f s m e))
                go_wp2_with fail
                refine (IH.out mid e b _ _ (by omega) (Nat.le_refl _) (by omega) x3 y3 G2.out (HT3.out _ D2.out)).mono ?_
                rintro er v3 ⟨g3, o3, d3, rfl, hD3, hK3⟩
                have G3 := Lib.hid hD3
                have K3 := Lib.hid (K2.out.trans hK3)
                have O3 := Lib.hid o3
                have D3 := Lib.hid d3
                clear hD3 hK3 o3 d3
                go_wp2_with fail
                go_end0
                obtain ⟨fin1, fin2⟩ := HE.out _ _ O2.out D2.out O3.out D3.out
                exact ⟨_, fin1, fin2, rfl, G3.out, K3.out⟩
              · have w3 : decide (mid < e) = true := decide_eq_true x3
                have z3 : decide (e < b) = false := decide_eq_false y3
                go_wp2_with fail
                refine (rotate_any bl N cap bb lb lo c n key f s m e _ _ hN HD1.out x1 y1 (by omega)).mono ?_
                rintro er v1 ⟨rfl, hD1, hK1⟩
                have G1 := Lib.hid hD1
                have K1 := Lib.hid (HK.out.trans hK1)
                clear hD1 hK1
                have G2 := G1
                have K2 := K1
                have O2 : Hid (St.Sorted key a mid (St.rot f s m e)) := Lib.hid (St.one_side HT2.out (by omega))
                have D2 := Lib.hid (St.Did.refl a mid (St.rot f s m e))
                have G3 := G2
                have K3 := K2
                have O3 := Lib.hid (St.one_side (HT3.out _ D2.out) (by omega))
                have D3 := Lib.hid (St.Did.refl mid b (St.rot f s m e))
                go_wp2_with fail
                go_end0
                obtain ⟨fin1, fin2⟩ := HE.out _ _ O2.out D2.out O3.out D3.out
                exact ⟨_, fin1, fin2, rfl, G3.out, K3.out⟩
            · have w3 : decide (mid < e) = false := decide_eq_false x3
              go_wp2_with fail
              refine (rotate_any bl N cap bb lb lo c n key f s m e _ _ hN HD1.out x1 y1 (by omega)).mono ?_
              rintro er v1 ⟨rfl, hD1, hK1⟩
              have G1 := Lib.hid hD1
              have K1 := Lib.hid (HK.out.trans hK1)
              clear hD1 hK1
              have G2 := G1
              have K2 := K1
              have O2 : Hid (St.Sorted key a mid (St.rot f s m e)) := Lib.hid (St.one_side HT2.out (by omega))
              have D2 := Lib.hid (St.Did.refl a mid (St.rot f s m e))
              have G3 := G2
              have K3 := K2
              have O3 := Lib.hid (St.one_side (HT3.out _ D2.out) (by omega))
              have D3 := Lib.hid (St.Did.refl mid b (St.rot f s m e))
              go_wp2_with fail
              go_end0
              obtain ⟨fin1, fin2⟩ := HE.out _ _ O2.out D2.out O3.out D3.out
              exact ⟨_, fin1, fin2, rfl, G3.out, K3.out⟩
        · have w1 : decide (s < m) = true := decide_eq_true x1
          have z1 : decide (m < e) = false := decide_eq_false y1
          by_cases x2 : a < s
          · by_cases y2 : s < mid
            · have w2 : decide (a < s) = true := decide_eq_true x2
              have z2 : decide (s < mid) = true := decide_eq_true y2
              by_cases x3 : mid < e
              · by_cases y3 : e < b
                · have w3 : decide (mid < e) = true := decide_eq_true x3
                  have z3 : decide (e < b) = true := decide_eq_true y3
                  have G1 : Hid (Dat bl N bb lb lo c n key (St.rot f s m e) wr) := Lib.hid (by rw [St.rot_triv f s m e u2 u3 (by omega)]; exact HD1.out)
                  have K1 := HK
                  go_wp2_with fail
                  refine (IH.out a s mid _ _ (Nat.le_refl _) (by omega) (by omega) x2 y2 G1.out HT2.out).mono ?_
                  rintro er v2 ⟨g2, o2, d2, rfl, hD2, hK2⟩
                  have G2 := Lib.hid hD2
                  have K2 := Lib.hid (K1.out.trans hK2)
                  have O2 := Lib.hid o2
                  have D2 := Lib.hid d2
                  clear hD2 hK2 o2 d2
                  go_wp2_with fail
                  refine (IH.out mid e b _ _ (by omega) (Nat.le_refl _) (by omega) x3 y3 G2.out (HT3.out _ D2.out)).mono ?_
                  rintro er v3 ⟨g3, o3, d3, rfl, hD3, hK3⟩
                  have G3 := Lib.hid hD3
                  have K3 := Lib.hid (K2.out.trans hK3)
                  have O3 := Lib.hid o3
                  have D3 := Lib.hid d3
                  clear hD3 hK3 o3 d3
                  go_wp2_with fail
                  go_end0
                  obtain ⟨fin1, fin2⟩ := HE.out _ _ O2.out D2.out O3.out D3.out
                  exact ⟨_, fin1, fin2, rfl, G3.out, K3.out⟩
                · have w3 : decide (mid < e) = true := decide_eq_true x3
                  have z3 : decide (e < b) = false := decide_eq_false y3
                  have G1 : Hid (Dat bl N bb lb lo c n key (St.rot f s m e) wr) := Lib.hid (by rw [St.rot_triv f s m e u2 u3 (by omega)]; exact HD1.out)
                  have K1 := HK
                  go_wp2_with fail
                  refine (IH.out a s mid _ _ (Nat.le_refl _) (by omega) (by omega) x2 y2 G1.out HT2.out).mono ?_
                  rintro er v2 ⟨g2, o2, d2, rfl, hD2, hK2⟩
                  have G2 := Lib.hid hD2
                  have K2 := Lib.hid (K1.out.trans hK2)
                  have O2 := Lib.hid o2
                  have D2 := Lib.hid d2
                  clear hD2 hK2 o2 d2
                  have G3 := G2
                  have K3 := K2
                  have O3 := Lib.hid (St.one_side (HT3.out _ D2.out) (by omega))
                  have D3 := Lib.hid (St.Did.refl mid b g2)
                  go_wp2_with fail
                  go_end0
                  obtain ⟨fin1, fin2⟩ := HE.out _ _ O2.out D2.out O3.out D3.out
                  exact ⟨_, fin1, fin2, rfl, G3.out, K3.out⟩
              · have w3 : decide (mid < e) = false := decide_eq_false x3
                have G1 : Hid (Dat bl N bb lb lo c n key (St.rot f s m e) wr) := Lib.hid (by rw [St.rot_triv f s m e u2 u3 (by omega)]; exact HD1.out)
                have K1 := HK
                go_wp2_with fail
                refine (IH.out a s mid _ _ (Nat.le_refl _) (by omega) (by omega) x2 y2 G1.out HT2.out).mono ?_
                rintro er v2 ⟨g2, o2, d2, rfl, hD2, hK2⟩
                have G2 := Lib.hid hD2
                have K2 := Lib.hid (K1.out.trans hK2)
                have O2 := Lib.hid o2
                have D2 := Lib.hid d2
                clear hD2 hK2 o2 d2
                have G3 := G2
                have K3 := K2
                have O3 := Lib.hid (St.one_side (HT3.out _ D2.out) (by omega))
                have D3 := Lib.hid (St.Did.refl mid b g2)
                go_wp2_with fail
                go_end0
                obtain ⟨fin1, fin2⟩ := HE.out _ _ O2.out D2.out O3.out D3.out
                exact ⟨_, fin1, fin2, rfl, G3.out, K3.out⟩
            · have w2 : decide (a < s) = true := decide_eq_true x2
              have z2 : decide (s < mid) = false := decide_eq_false y2
              by_cases x3 : mid < e
              · by_cases y3 : e < b
                · have w3 : decide (mid < e) = true := decide_eq_true x3
                  have z3 : decide (e < b) = true := decide_eq_true y3
                  have G1 : Hid (Dat bl N bb lb lo c n key (St.rot f s m e) wr) := Lib.hid (by rw [St.rot_triv f s m e u2 u3 (by omega)]; exact HD1.out)
                  have K1 := HK
                  have G2 := G1
                  have K2 := K1
                  have O2 : Hid (St.Sorted key a mid (St.rot f s m e)) := Lib.hid (St.one_side HT2.out (by omega))
                  have D2 := Lib.hid (St.Did.refl a mid (St.rot f s m e))
                  go_wp2_with fail
                  refine (IH.out mid e b _ _ (by omega) (Nat.le_refl _) (by omega) x3 y3 G2.out (HT3.out _ D2.out)).mono ?_
                  rintro er v3 ⟨g3, o3, d3, rfl, hD3, hK3⟩
                  have G3 := Lib.hid hD3
                  have K3 := Lib.hid (K2.out.trans hK3)
                  have O3 := Lib.hid o3
                  have D3 := Lib.hid d3
                  clear hD3 hK3 o3 d3
                  go_wp2_with fail
                  go_end0
                  obtain ⟨fin1, fin2⟩ := HE.out _ _ O2.out D2.out O3.out D3.out
                  exact ⟨_, fin1, fin2, rfl, G3.out, K3.out⟩
                · have w3 : decide (mid < e) = true := decide_eq_true x3
                  have z3 : decide (e < b) = false := decide_eq_false y3
                  have G1 : Hid (Dat bl N bb lb lo c n key (St.rot f s m e) wr) := Lib.hid (by rw [St.rot_triv f s m e u2 u3 (by omega)]; exact HD1.out)
                  have K1 := HK
                  have G2 := G1
                  have K2 := K1
                  have O2 : Hid (St.Sorted key a mid (St.rot f s m e)) := Lib.hid (St.one_side HT2.out (by omega))
                  have D2 := Lib.hid (St.Did.refl a mid (St.rot f s m e))
                  have G3 := G2
                  have K3 := K2
                  have O3 := Lib.hid (St.one_side (HT3.out _ D2.out) (by omega))
                  have D3 := Lib.hid (St.Did.refl mid b (St.rot f s m e))
                  go_wp2_with fail
                  go_end0
                  obtain ⟨fin1, fin2⟩ := HE.out _ _ O2.out D2.out O3.out D3.out
                  exact ⟨_, fin1, fin2, rfl, G3.out, K3.out⟩
              · have w3 : decide (mid < e) = false := decide_eq_false x3
                have G1 : Hid (Dat bl N bb lb lo c n key (St.rot f s m e) wr) := Lib.hid (by rw [St.rot_triv f s m e u2 u3 (by omega)]; exact HD1.out)
                have K1 := HK
                have G2 := G1
                have K2 := K1
                have O2 : Hid (St.Sorted key a mid (St.rot f s m e)) := Lib.hid (St.one_side HT2.out (by omega))
                have D2 := Lib.hid (St.Did.refl a mid (St.rot f s m e))
                have G3 := G2
                have K3 := K2
                have O3 := Lib.hid (St.one_side (HT3.out _ D2.out) (by omega))
                have D3 := Lib.hid (St.Did.refl mid b (St.rot f s m e))
                go_wp2_with fail
                go_end0
                obtain ⟨fin1, fin2⟩ := HE.out _ _ O2.out D2.out O3.out D3.out
                exact ⟨_, fin1, fin2, rfl, G3.out, K3.out⟩
          · have w2 : decide (a < s) = false := decide_eq_false x2
            by_cases x3 : mid < e
            · by_cases y3 : e < b
              · have w3 : decide (mid < e) = true := decide_eq_true x3
                have z3 : decide (e < b) = true := decide_eq_true y3
                have G1 : Hid (Dat bl N bb lb lo c n key (St.rot f s m e) wr) := Lib.hid (by rw [St.rot_triv f s m e u2 u3 (by omega)]; exact HD1.out)
                have K1 := HK
                have G2 := G1
                have K2 := K1
                have O2 : Hid (St.Sorted key a mid (St.rot f s m e)) := Lib.hid (St.one_side HT2.out (by omega))
                have D2 := Lib.hid (St.Did.refl a mid (St.rot f s m e))
                go_wp2_with fail
                refine (IH.out mid e b _ _ (by omega) (Nat.le_refl _) (by omega) x3 y3 G2.out (HT3.out _ D2.out)).mono ?_
                rintro er v3 ⟨g3, o3, d3, rfl, hD3, hK3⟩
                have G3 := Lib.hid hD3
                have K3 := Lib.hid (K2.out.trans hK3)
                have O3 := Lib.hid o3
                have D3 := Lib.hid d3
                clear hD3 hK3 o3 d3
                go_wp2_with fail
                go_end0
                obtain ⟨fin1, fin2⟩ := HE.out _ _ O2.out D2.out O3.out D3.out
                exact ⟨_, fin1, fin2, rfl, G3.out, K3.out⟩
              · have w3 : decide (mid < e) = true := decide_eq_true x3
                have z3 : decide (e < b) = false := decide_eq_false y3
                have G1 : Hid (Dat bl N bb lb lo c n key (St.rot f s m e) wr) := Lib.hid (by rw [St.rot_triv f s m e u2 u3 (by omega)]; exact HD1.out)
                have K1 := HK
                have G2 := G1
                have K2 := K1
                have O2 : Hid (St.Sorted key a mid (St.rot f s m e)) := Lib.hid (St.one_side HT2.out (by omega))
                have D2 := Lib.hid (St.Did.refl a mid (St.rot f s m e))
                have G3 := G2
                have K3 := K2
                have O3 := Lib.hid (St.one_side (HT3.out _ D2.out) (by omega))
                have D3 := Lib.hid (St.Did.refl mid b (St.rot f s m e))
                go_wp2_with fail
                go_end0
                obtain ⟨fin1, fin2⟩ := HE.out _ _ O2.out D2.out O3.out D3.out
                exact ⟨_, fin1, fin2, rfl, G3.out, K3.out⟩
            · have w3 : decide (mid < e) = false := decide_eq_false x3
              have G1 : Hid (Dat bl N bb lb lo c n key (St.rot f s m e) wr) := Lib.hid (by rw [St.rot_triv f s m e u2 u3 (by omega)]; exact HD1.out)
              have K1 := HK
              have G2 := G1
              have K2 := K1
              have O2 : Hid (St.Sorted key a mid (St.rot f s m e)) := Lib.hid (St.one_side HT2.out (by omega))
              have D2 := Lib.hid (St.Did.refl a mid (St.rot f s m e))
              have G3 := G2
              have K3 := K2
              have O3 := Lib.hid (St.one_side (HT3.out _ D2.out) (by omega))
              have D3 := Lib.hid (St.Did.refl mid b (St.rot f s m e))
              go_wp2_with fail
              go_end0
              obtain ⟨fin1, fin2⟩ := HE.out _ _ O2.out D2.out O3.out D3.out
              exact ⟨_, fin1, fin2, rfl, G3.out, K3.out⟩
      · have w1 : decide (s < m) = false := decide_eq_false x1
        by_cases x2 : a < s
        · by_cases y2 : s < mid
          · have w2 : decide (a < s) = true := decide_eq_true x2
            have z2 : decide (s < mid) = true := decide_eq_true y2
            by_cases x3 : mid < e
            · by_cases y3 : e < b
              · have w3 : decide (mid < e) = true := decide_eq_true x3
                have z3 : decide (e < b) = true := decide_eq_true y3
                have G1 : Hid (Dat bl N bb lb lo c n key (St.rot f s m e) wr) := Lib.hid (by rw [St.rot_triv f s m e u2 u3 (by omega)]; exact HD1.out)
                have K1 := HK
                go_wp2_with fail
                refine (IH.out a s mid _ _ (Nat.le_refl _) (by omega) (by omega) x2 y2 G1.out HT2.out).mono ?_
                rintro er v2 ⟨g2, o2, d2, rfl, hD2, hK2⟩
                have G2 := Lib.hid hD2
                have K2 := Lib.hid (K1.out.trans hK2)
                have O2 := Lib.hid o2
                have D2 := Lib.hid d2
                clear hD2 hK2 o2 d2
                go_wp2_with fail
                refine (IH.out mid e b _ _ (by omega) (Nat.le_refl _) (by omega) x3 y3 G2.out (HT3.out _ D2.out)).mono ?_
                rintro er v3 ⟨g3, o3, d3, rfl, hD3, hK3⟩
                have G3 := Lib.hid hD3
                have K3 := Lib.hid (K2.out.trans hK3)
                have O3 := Lib.hid o3
                have D3 := Lib.hid d3
                clear hD3 hK3 o3 d3
                go_wp2_with fail
                go_end0
                obtain ⟨fin1, fin2⟩ := HE.out _ _ O2.out D2.out O3.out D3.out
                exact ⟨_, fin1, fin2, rfl, G3.out, K3.out⟩
              · have w3 : decide (mid < e) = true := decide_eq_true x3
                have z3 : decide (e < b) = false := decide_eq_false y3
                have G1 : Hid (Dat bl N bb lb lo c n key (St.rot f s m e) wr) := Lib.hid (by rw [St.rot_triv f s m e u2 u3 (by omega)]; exact HD1.out)
                have K1 := HK
                go_wp2_with fail
                refine (IH.out a s mid _ _ (Nat.le_refl _) (by omega) (by omega) x2 y2 G1.out HT2.out).mono ?_
                rintro er v2 ⟨g2, o2, d2, rfl, hD2, hK2⟩
                have G2 := Lib.hid hD2
                have K2 := Lib.hid (K1.out.trans hK2)
                have O2 := Lib.hid o2
                have D2 := Lib.hid d2
                clear hD2 hK2 o2 d2
                have G3 := G2
                have K3 := K2
                have O3 := Lib.hid (St.one_side (HT3.out _ D2.out) (by omega))
                have D3 := Lib.hid (St.Did.refl mid b g2)
                go_wp2_with fail
                go_end0
                obtain ⟨fin1, fin2⟩ := HE.out _ _ O2.out D2.out O3.out D3.out
                exact ⟨_, fin1, fin2, rfl, G3.out, K3.out⟩
            · have w3 : decide (mid < e) = false := decide_eq_false x3
              have G1 : Hid (Dat bl N bb lb lo c n key (St.rot f s m e) wr) := Lib.hid (by rw [St.rot_triv f s m e u2 u3 (by omega)]; exact HD1.out)
              have K1 := HK
              go_wp2_with fail
              refine (IH.out a s mid _ _ (Nat.le_refl _) (by omega) (by omega) x2 y2 G1.out HT2.out).mono ?_
              rintro er v2 ⟨g2, o2, d2, rfl, hD2, hK2⟩
              have G2 := Lib.hid hD2
              have K2 := Lib.hid (K1.out.trans hK2)
              have O2 := Lib.hid o2
              have D2 := Lib.hid d2
              clear hD2 hK2 o2 d2
              have G3 := G2
              have K3 := K2
              have O3 := Lib.hid (St.one_side (HT3.out _ D2.out) (by omega))
              have D3 := Lib.hid (St.Did.refl mid b g2)
              go_wp2_with fail
              go_end0
              obtain ⟨fin1, fin2⟩ := HE.out _ _ O2.out D2.out O3.out D3.out
              exact ⟨_, fin1, fin2, rfl, G3.out, K3.out⟩
          · have w2 : decide (a < s) = true := decide_eq_true x2
            have z2 : decide (s < mid) = false := decide_eq_false y2
            by_cases x3 : mid < e
            · by_cases y3 : e < b
              · have w3 : decide (mid < e) = true := decide_eq_true x3
                have z3 : decide (e < b) = true := decide_eq_true y3
                have G1 : Hid (Dat bl N bb lb lo c n key (St.rot f s m e) wr) := Lib.hid (by rw [St.rot_triv f s m e u2 u3 (by omega)]; exact HD1.out)
                have K1 := HK
                have G2 := G1
                have K2 := K1
                have O2 : Hid (St.Sorted key a mid (St.rot f s m e)) := Lib.hid (St.one_side HT2.out (by omega))
                have D2 := Lib.hid (St.Did.refl a mid (St.rot f s m e))
                go_wp2_with fail
                refine (IH.out mid e b _ _ (by omega) (Nat.le_refl _) (by omega) x3 y3 G2.out (HT3.out _ D2.out)).mono ?_
                rintro er v3 ⟨g3, o3, d3, rfl, hD3, hK3⟩
                have G3 := Lib.hid hD3
                have K3 := Lib.hid (K2.out.trans hK3)
                have O3 := Lib.hid o3
                have D3 := Lib.hid d3
                clear hD3 hK3 o3 d3
                go_wp2_with fail
                go_end0
                obtain ⟨fin1, fin2⟩ := HE.out _ _ O2.out D2.out O3.out D3.out
                exact ⟨_, fin1, fin2, rfl, G3.out, K3.out⟩
              · have w3 : decide (mid < e) = true := decide_eq_true x3
                have z3 : decide (e < b) = false := decide_eq_false y3
                have G1 : Hid (Dat bl N bb lb lo c n key (St.rot f s m e) wr) := Lib.hid (by rw [St.rot_triv f s m e u2 u3 (by omega)]; exact HD1.out)
                have K1 := HK
                have G2 := G1
                have K2 := K1
                have O2 : Hid (St.Sorted key a mid (St.rot f s m e)) := Lib.hid (St.one_side HT2.out (by omega))
                have D2 := Lib.hid (St.Did.refl a mid (St.rot f s m e))
                have G3 := G2
                have K3 := K2
                have O3 := Lib.hid (St.one_side (HT3.out _ D2.out) (by omega))
                have D3 := Lib.hid (St.Did.refl mid b (St.rot f s m e))
                go_wp2_with fail
                go_end0
                obtain ⟨fin1, fin2⟩ := HE.out _ _ O2.out D2.out O3.out D3.out
                exact ⟨_, fin1, fin2, rfl, G3.out, K3.out⟩
            · have w3 : decide (mid < e) = false := decide_eq_false x3
              have G1 : Hid (Dat bl N bb lb lo c n key (St.rot f s m e) wr) := Lib.hid (by rw [St.rot_triv f s m e u2 u3 (by omega)]; exact HD1.out)
              have K1 := HK
              have G2 := G1
              have K2 := K1
              have O2 : Hid (St.Sorted key a mid (St.rot f s m e)) := Lib.hid (St.one_side HT2.out (by omega))
              have D2 := Lib.hid (St.Did.refl a mid (St.rot f s m e))
              have G3 := G2
              have K3 := K2
              have O3 := Lib.hid (St.one_side (HT3.out _ D2.out) (by omega))
              have D3 := Lib.hid (St.Did.refl mid b (St.rot f s m e))
              go_wp2_with fail
              go_end0
              obtain ⟨fin1, fin2⟩ := HE.out _ _ O2.out D2.out O3.out D3.out
              exact ⟨_, fin1, fin2, rfl, G3.out, K3.out⟩
        · have w2 : decide (a < s) = false := decide_eq_false x2
          by_cases x3 : mid < e
          · by_cases y3 : e < b
            · have w3 : decide (mid < e) = true := decide_eq_true x3
              have z3 : decide (e < b) = true := decide_eq_true y3
              have G1 : Hid (Dat bl N bb lb lo c n key (St.rot f s m e) wr) := Lib.hid (by rw [St.rot_triv f s m e u2 u3 (by omega)]; exact HD1.out)
              have K1 := HK
              have G2 := G1
              have K2 := K1
              have O2 : Hid (St.Sorted key a mid (St.rot f s m e)) := Lib.hid (St.one_side HT2.out (by omega))
              have D2 := Lib.hid (St.Did.refl a mid (St.rot f s m e))
              go_wp2_with fail
              refine (IH.out mid e b _ _ (by omega) (Nat.le_refl _) (by omega) x3 y3 G2.out (HT3.out _ D2.out)).mono ?_
              rintro er v3 ⟨g3, o3, d3, rfl, hD3, hK3⟩
              have G3 := Lib.hid hD3
              have K3 := Lib.hid (K2.out.trans hK3)
              have O3 := Lib.hid o3
              have D3 := Lib.hid d3
              clear hD3 hK3 o3 d3
              go_wp2_with fail
              go_end0
              obtain ⟨fin1, fin2⟩ := HE.out _ _ O2.out D2.out O3.out D3.out
              exact ⟨_, fin1, fin2, rfl, G3.out, K3.out⟩
            · have w3 : decide (mid < e) = true := decide_eq_true x3
              have z3 : decide (e < b) = false := decide_eq_false y3
              have G1 : Hid (Dat bl N bb lb lo c n key (St.rot f s m e) wr) := Lib.hid (by rw [St.rot_triv f s m e u2 u3 (by omega)]; exact HD1.out)
              have K1 := HK
              have G2 := G1
              have K2 := K1
              have O2 : Hid (St.Sorted key a mid (St.rot f s m e)) := Lib.hid (St.one_side HT2.out (by omega))
              have D2 := Lib.hid (St.Did.refl a mid (St.rot f s m e))
              have G3 := G2
              have K3 := K2
              have O3 := Lib.hid (St.one_side (HT3.out _ D2.out) (by omega))
              have D3 := Lib.hid (St.Did.refl mid b (St.rot f s m e))
              go_wp2_with fail
              go_end0
              obtain ⟨fin1, fin2⟩ := HE.out _ _ O2.out D2.out O3.out D3.out
              exact ⟨_, fin1, fin2, rfl, G3.out, K3.out⟩
          · have w3 : decide (mid < e) = false := decide_eq_false x3
            have G1 : Hid (Dat bl N bb lb lo c n key (St.rot f s m e) wr) := Lib.hid (by rw [St.rot_triv f s m e u2 u3 (by omega)]; exact HD1.out)
            have K1 := HK
            have G2 := G1
            have K2 := K1
            have O2 : Hid (St.Sorted key a mid (St.rot f s m e)) := Lib.hid (St.one_side HT2.out (by omega))
            have D2 := Lib.hid (St.Did.refl a mid (St.rot f s m e))
            have G3 := G2
            have K3 := K2
            have O3 := Lib.hid (St.one_side (HT3.out _ D2.out) (by omega))
            have D3 := Lib.hid (St.Did.refl mid b (St.rot f s m e))
            go_wp2_with fail
            go_end0
            obtain ⟨fin1, fin2⟩ := HE.out _ _ O2.out D2.out O3.out D3.out
            exact ⟨_, fin1, fin2, rfl, G3.out, K3.out⟩
end Go.Proofs.Ytonpbbflloljgaa
