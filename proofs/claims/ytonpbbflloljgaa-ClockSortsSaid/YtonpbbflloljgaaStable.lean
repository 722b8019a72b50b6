/-
  The walk of slices' stable sort: blocks by insertion, then merged in place.
-/
import Derived.Test.YtonpbbflloljgaaStabB
namespace Go.Proofs.Ytonpbbflloljgaa
open Go.RowKit

/-- What the whole sort makes of the row. -/
def MadeI (bl N bb lb lo c n : Nat) (key : Nat → Int) (f : Nat → Nat) (w : World) (e : Ending) (w' : World) : Prop :=
  ∃ g, St.Sorted key 0 N g ∧ St.Inc 0 N f g ∧ St.Inc 0 N g f ∧ Made bl N bb lb lo c n key w g e w'

set_option maxHeartbeats 6400000 in
set_option maxRecDepth 100000 in
theorem stable_any (bl N cap bb lb lo c n : Nat) (key : Nat → Int) (f : Nat → Nat) (w : World) (hN : N ≤ 200) (hd : Dat bl N bb lb lo c n key f w) (rise : ∀ i j, i < j → j < N → f i < f j) :
    Calls Try.prog 21 #[.slice (some ⟨bl, 0, none⟩) N cap, .int .i64 (N : Int), cmpF bb] w (MadeI bl N bb lb lo c n key f w) := by
  have HD := Lib.hid hd
  have HR := Lib.hid rise
  clear hd rise
  go_enter Try.func21, Try.ntmps21
  go_wp2_with fail
  go_loopw [7, 8] (fun p x wr => ∃ (q A : Nat) (g : Nat → Nat), A = q * 20 ∧ A ≤ N ∧ p = .int .i64 (A : Int) ∧ x = .int .i64 ((A + 20 : Nat) : Int) ∧ (∀ r, r < q → St.Sorted key (r * 20) (min (r * 20 + 20) N) g) ∧ (∀ k, A ≤ k → g k = f k) ∧ St.BI 20 N f g ∧ Dat bl N bb lb lo c n key g wr ∧ Keeps (Ro bl) w wr) (fun p _ _ => N - (intOf p).toNat)
  case atStart => exact ⟨0, 0, f, rfl, Nat.zero_le _, rfl, rfl, fun r h => by omega, fun _ _ => rfl, St.BI.refl _ _ _, HD.out, Keeps.refl _ _⟩
  case round =>
    obtain ⟨q, A, g, hA, hAN, rfl, rfl, hs, hsame, hbi, hD, hK⟩ := hrel
    have HA := Lib.hid hA
    have HS := Lib.hid hs
    have HM := Lib.hid hsame
    have HB := Lib.hid hbi
    have HG := Lib.hid hD
    have HK := Lib.hid hK
    clear hA hs hsame hbi hD hK
    by_cases hlt : A + 20 ≤ N
    · have HC : Hid (∀ W, Dat bl N bb lb lo c n key g W → Calls Try.prog 36 #[.slice (some ⟨bl, 0, none⟩) N cap, .int .i64 (A : Int), .int .i64 ((A + 20 : Nat) : Int), cmpF bb] W (MadeS bl N bb lb lo c n key A (A + 20) g W)) := Lib.hid fun W hW => insertion_any bl N cap bb lb lo c n key g A (A + 20) W hN hW (by omega) hlt (fun i j h1 h2 h3 => by rw [HM.out i h1, HM.out j (by omega)]; exact HR.out i j h2 (by omega))
      have e1 : ((A + 20 : Nat) : Int) ≤ (N : Int) := by omega
      have e2 : ((A + 20 + 20 : Nat) : Int) = ((A + 20 : Nat) : Int) + 20 := by omega
      have e3 : 0 ≤ ((A + 20 : Nat) : Int) := by omega
      have hTn : (((A + 20 : Nat) : Int)).toNat = A + 20 := by omega
      have E2 := Lib.hid e2
      clear e2
      generalize hT : ((A + 20 : Nat) : Int) = T at *
      have HT := Lib.hid hT
      have HTn := Lib.hid hTn
      clear hT hTn
      go_wp2_with fail
      refine (HC.out _ HG.out).mono ?_
      rintro er v1 ⟨g1, o1, d1, rfl, hD1, hK1⟩
      have G1 := Lib.hid hD1
      have K1 := Lib.hid (HK.out.trans hK1)
      have O1 := Lib.hid o1
      have D1 := Lib.hid d1
      clear hD1 hK1 o1 d1
      go_wp2_with fail
      go_roundw
      case rel => exact ⟨q + 1, A + 20, g1, by rw [HA.out]; omega, hlt, by rw [HT.out], by rw [E2.out], fun r hr => by
          have ha := HA.out
          by_cases e : r = q
          · subst e
            rw [← ha, Nat.min_eq_left hlt]; exact O1.out
          · have hlt2 := St.block_lt (B := 20) (show r < q by omega)
            intro i j h1 h2 h3
            rw [D1.out.out i (Or.inl (by omega)), D1.out.out j (Or.inl (by omega))]
            exact HS.out r (by omega) i j h1 h2 h3, fun k hk => by rw [D1.out.out k (Or.inr hk)]; exact HM.out k (by omega), by
          refine HB.out.did (r := q) ?_
          rw [← HA.out, Nat.min_eq_left hlt]; exact D1.out, G1.out, K1.out⟩
      case measure => simp [intOf]; have := HTn.out; omega
    · have HC : Hid (∀ W, Dat bl N bb lb lo c n key g W → Calls Try.prog 36 #[.slice (some ⟨bl, 0, none⟩) N cap, .int .i64 (A : Int), .int .i64 (N : Int), cmpF bb] W (MadeS bl N bb lb lo c n key A N g W)) := Lib.hid fun W hW => insertion_any bl N cap bb lb lo c n key g A N W hN hW hAN (Nat.le_refl _) (fun i j h1 h2 h3 => by rw [HM.out i h1, HM.out j (by omega)]; exact HR.out i j h2 h3)
      obtain ⟨wo, rfl⟩ : ∃ wo : World, wo = wr := ⟨_, rfl⟩
      have t1 : decide (A + 20 ≤ N) = false := decide_eq_false hlt
      go_wp2_with fail
      refine (HC.out _ HG.out).mono ?_
      rintro er v1 ⟨g1, o1, d1, rfl, hD1, hK1⟩
      have G1 := Lib.hid hD1
      have K1 := Lib.hid (HK.out.trans hK1)
      have hBS : St.BS key 20 N g1 := fun r => by
        have ha := HA.out
        rcases Nat.lt_trichotomy r q with h | h | h
        · have hlt2 := St.block_lt (B := 20) h
          intro i j h1 h2 h3
          rw [d1.out i (Or.inl (by omega)), d1.out j (Or.inl (by omega))]
          exact HS.out r h i j h1 h2 h3
        · subst h
          rw [← ha, Nat.min_eq_right (by omega)]; exact o1
        · have hlt2 := St.block_lt (B := 20) h
          intro i j h1 h2 h3
          omega
      have hBI : St.BI 20 N f g1 := by
        refine HB.out.did (r := q) ?_
        rw [← HA.out, Nat.min_eq_right (by omega)]; exact d1
      have BSH := Lib.hid hBS
      have BIH := Lib.hid hBI
      clear hD1 hK1 o1 d1 hBS hBI HS HM HB HG HK HC HA t1
      go_wp2_with fail
      clear hlt hAN
      go_loopw [6] (fun p wr => ∃ (B : Nat) (g : Nat → Nat), 20 ≤ B ∧ B ≤ 400 ∧ p = .int .i64 (B : Int) ∧ St.BS key B N g ∧ St.BI B N f g ∧ Dat bl N bb lb lo c n key g wr ∧ Keeps (Ro bl) w wr) (fun p _ => 401 - (intOf p).toNat)
      case atStart => exact ⟨20, g1, Nat.le_refl _, by decide, rfl, BSH.out, BIH.out, G1.out, K1.out⟩
      case round =>
        clear BSH BIH G1 K1
        obtain ⟨B, g2, hB1, hB2, rfl, hbs, hbi, hD, hK⟩ := hrel
        have BS := Lib.hid hbs
        have BI := Lib.hid hbi
        have G2 := Lib.hid hD
        have K2 := Lib.hid hK
        clear hbs hbi hD hK
        by_cases hlt : B < N
        · obtain ⟨wo, rfl⟩ : ∃ wo : World, wo = wr := ⟨_, rfl⟩
          have e0 : 2 * (B : Int) = ((2 * B : Nat) : Int) := by omega
          have e1 : ((2 * B : Nat) : Int) = ((0 + 2 * B : Nat) : Int) := by omega
          have E1 := Lib.hid e1
          clear e1
          obtain ⟨D, hD⟩ : ∃ D, D = 2 * B := ⟨_, rfl⟩
          have HDB := Lib.hid hD
          rw [← hD] at e0 E1
          have hD1 : D ≤ 400 := by omega
          have hD2 : 40 ≤ D := by omega
          clear hD
          go_wp2_with fail
          go_loopw [7, 8] (fun p x wr => ∃ (q A : Nat) (h : Nat → Nat), A = q * D ∧ A ≤ N ∧ p = .int .i64 (A : Int) ∧ x = .int .i64 ((A + D : Nat) : Int) ∧ (∀ r, r < q → St.Sorted key (r * D) (min (r * D + D) N) h) ∧ (∀ k, A ≤ k → h k = g2 k) ∧ St.BI D N f h ∧ Dat bl N bb lb lo c n key h wr ∧ Keeps (Ro bl) w wr) (fun p _ _ => N - (intOf p).toNat)
          case atStart => exact ⟨0, 0, g2, by omega, Nat.zero_le _, rfl, by rw [E1.out], fun r h => by omega, fun _ _ => rfl, by rw [HDB.out]; exact BI.out.double, G2.out, K2.out⟩
          case round =>
            obtain ⟨q, A, h, hA, hAN, rfl, rfl, hs, hsame, hbi, hD, hK⟩ := hrel
            have HA := Lib.hid hA
            have HS := Lib.hid hs
            have HM := Lib.hid hsame
            have HB := Lib.hid hbi
            have HG := Lib.hid hD
            have HK := Lib.hid hK
            clear hA hs hsame hbi hD hK
            have HT2 : Hid (A + B ≤ N → ∀ b, b = min (A + D) N → Two2 key A (A + B) b h) := Lib.hid fun h1 b h2 => by
              have ha := HA.out
              rw [HDB.out] at ha
              rw [ha] at h1 ⊢
              exact St.two_blocks HR.out BI.out BS.out (by rw [h2, ha, HDB.out]) (fun k hk => HM.out k (by omega)) h1
            by_cases hlt2 : A + D ≤ N
            · have HC : Hid (∀ W, Dat bl N bb lb lo c n key h W → Calls Try.prog 37 #[.slice (some ⟨bl, 0, none⟩) N cap, .int .i64 (A : Int), .int .i64 ((A + B : Nat) : Int), .int .i64 ((A + D : Nat) : Int), cmpF bb] W (MadeS bl N bb lb lo c n key A (A + D) h W)) := Lib.hid fun W hW => by
                have hdb := HDB.out
                exact symMerge_any bl N cap bb lb lo c n key hN (A + D - A) A (A + B) (A + D) h W (Nat.le_refl _) (by omega) (by omega) hlt2 hW (HT2.out (by omega) _ (by omega))
              have e1 : ((A + D : Nat) : Int) ≤ (N : Int) := by omega
              have e2 : ((A + D + D : Nat) : Int) = ((A + D : Nat) : Int) + (D : Int) := by omega
              have e3 : 0 ≤ ((A + D : Nat) : Int) := by omega
              have e4 : (A : Int) + (B : Int) = ((A + B : Nat) : Int) := by omega
              have hTn : (((A + D : Nat) : Int)).toNat = A + D := by omega
              have E2 := Lib.hid e2
              clear e2
              generalize hT : ((A + D : Nat) : Int) = T at *
              generalize hM2 : ((A + B : Nat) : Int) = M at *
              have HT := Lib.hid hT
              have HTn := Lib.hid hTn
              clear hT hTn hM2
              go_wp2_with fail
              refine (HC.out _ HG.out).mono ?_
              rintro er v1 ⟨g3, o1, d1, rfl, hD1, hK1⟩
              have G3 := Lib.hid hD1
              have K3 := Lib.hid (HK.out.trans hK1)
              have O1 := Lib.hid o1
              have D1 := Lib.hid d1
              clear hD1 hK1 o1 d1
              go_wp2_with fail
              go_roundw
              case rel => exact ⟨q + 1, A + D, g3, by rw [HA.out, Nat.add_mul, Nat.one_mul], hlt2, by rw [HT.out], by rw [E2.out], fun r hr => by
                  have ha := HA.out
                  by_cases e : r = q
                  · subst e
                    rw [← ha, Nat.min_eq_left hlt2]; exact O1.out
                  · have hlt3 := St.block_lt (B := D) (show r < q by omega)
                    intro i j h1 h2 h3
                    rw [D1.out.out i (Or.inl (by omega)), D1.out.out j (Or.inl (by omega))]
                    exact HS.out r (by omega) i j h1 h2 h3, fun k hk => by rw [D1.out.out k (Or.inr hk)]; exact HM.out k (by omega), by
                  refine HB.out.did (r := q) ?_
                  rw [← HA.out, Nat.min_eq_left hlt2]; exact D1.out, G3.out, K3.out⟩
              case measure => simp [intOf]; have := HTn.out; omega
            · have rest : ∀ g3, St.Sorted key A N g3 → St.Did A N h g3 → St.BS key D N g3 ∧ St.BI D N f g3 := fun g3 o1 d1 => by
                have ha := HA.out
                constructor
                · intro r
                  rcases Nat.lt_trichotomy r q with e | e | e
                  · have hlt3 := St.block_lt (B := D) e
                    intro i j h1 h2 h3
                    rw [d1.out i (Or.inl (by omega)), d1.out j (Or.inl (by omega))]
                    exact HS.out r e i j h1 h2 h3
                  · subst e
                    rw [← ha, Nat.min_eq_right (by omega)]; exact o1
                  · have hlt3 := St.block_lt (B := D) e
                    intro i j h1 h2 h3
                    omega
                · refine HB.out.did (r := q) ?_
                  rw [← ha, Nat.min_eq_right (by omega)]; exact d1
              have RS := Lib.hid rest
              have t1 : decide (A + D ≤ N) = false := decide_eq_false hlt2
              have e4 : (A : Int) + (B : Int) = ((A + B : Nat) : Int) := by omega
              have e6 : (B : Int) * 2 = (D : Int) := by rw [HDB.out]; omega
              have e7 : ((A + D : Nat) : Int) = (A : Int) + (D : Int) := by omega
              have hdb := HDB.out
              have hBD : B < D := by omega
              clear rest hdb
              by_cases hm : A + B < N
              · have HC : Hid (∀ W, Dat bl N bb lb lo c n key h W → Calls Try.prog 37 #[.slice (some ⟨bl, 0, none⟩) N cap, .int .i64 (A : Int), .int .i64 ((A + B : Nat) : Int), .int .i64 (N : Int), cmpF bb] W (MadeS bl N bb lb lo c n key A N h W)) := Lib.hid fun W hW => symMerge_any bl N cap bb lb lo c n key hN (N - A) A (A + B) N h W (Nat.le_refl _) (by omega) hm (Nat.le_refl _) hW (HT2.out (by omega) _ (by omega))
                have e5 : ((A + B : Nat) : Int) < (N : Int) := by omega
                generalize ((A + B : Nat) : Int) = M at *
                clear hm
                go_wp2_with fail
                refine (HC.out _ HG.out).mono ?_
                rintro er v1 ⟨g3, o1, d1, rfl, hD1, hK1⟩
                have G3 := Lib.hid hD1
                have K3 := Lib.hid (HK.out.trans hK1)
                have FIN := Lib.hid (RS.out g3 o1 d1)
                clear hD1 hK1 o1 d1
                go_wp2_with fail
                go_roundw
                case rel => exact ⟨D, g3, by omega, hD1, rfl, FIN.out.1, FIN.out.2, G3.out, K3.out⟩
                case measure => simp [intOf]; omega
              · have FIN := Lib.hid (RS.out h (by
                  have ha := HA.out
                  rw [HDB.out] at ha
                  have hb := BS.out (2 * q)
                  rw [St.two_mul_block, ← ha, Nat.min_eq_right (by omega)] at hb
                  intro i j h1 h2 h3
                  rw [HM.out i h1, HM.out j (by omega)]; exact hb i j h1 h2 h3) (St.Did.refl _ _ _))
                have t2 : decide (A + B < N) = false := decide_eq_false hm
                have e5 : (N : Int) ≤ ((A + B : Nat) : Int) := by omega
                generalize ((A + B : Nat) : Int) = M at *
                clear hm
                go_wp2_with fail
                go_roundw
                case rel => exact ⟨D, h, by omega, hD1, rfl, FIN.out.1, FIN.out.2, HG.out, HK.out⟩
                case measure => simp [intOf]; omega
        · have hfin : St.Sorted key 0 N g2 ∧ St.Inc 0 N f g2 ∧ St.Inc 0 N g2 f := by
            have h1 := BS.out 0
            have h2 := BI.out 0
            rw [Nat.zero_mul, Nat.zero_add, Nat.min_eq_right (by omega)] at h1 h2
            exact ⟨h1, h2.1, h2.2⟩
          have FIN := Lib.hid hfin
          clear hfin
          go_wp2_with fail
          go_end0
          exact ⟨g2, FIN.out.1, FIN.out.2.1, FIN.out.2.2, rfl, G2.out, K2.out⟩

set_option maxHeartbeats 800000 in
theorem sortStable_any (bl N cap bb lb lo c n : Nat) (key : Nat → Int) (f : Nat → Nat) (w : World) (hN : N ≤ 200) (hd : Dat bl N bb lb lo c n key f w) (rise : ∀ i j, i < j → j < N → f i < f j) :
    Calls Try.prog 8 #[.slice (some ⟨bl, 0, none⟩) N cap, cmpF bb] w (MadeI bl N bb lb lo c n key f w) := by
  have HC := Lib.hid (stable_any bl N cap bb lb lo c n key f w hN hd rise)
  clear hd rise
  go_enter Try.func8, Try.ntmps8
  go_wp2_with fail
  refine HC.out.mono ?_
  rintro e w1 ⟨g, h1, h2, h3, rfl, h4, h5⟩
  have H := Lib.hid (And.intro h1 (And.intro h2 (And.intro h3 (And.intro h4 h5))))
  clear h1 h2 h3 h4 h5
  go_wp2_with fail
  go_end0
  exact ⟨g, H.out.1, H.out.2.1, H.out.2.2.1, rfl, H.out.2.2.2.1, H.out.2.2.2.2⟩
end Go.Proofs.Ytonpbbflloljgaa
