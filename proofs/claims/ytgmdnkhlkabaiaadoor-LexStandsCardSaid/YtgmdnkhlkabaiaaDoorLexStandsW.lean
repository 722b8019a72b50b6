/-
  The walk of the law LexStands.
-/
import Derived.Test.YtgmdnkhlkabaiaaDoorLexL1
namespace Go.Proofs.YtgmdnkhlkabaiaaDoor
open Go.RowKit Lx

set_option maxRecDepth 100000 in
set_option maxHeartbeats 12800000 in
theorem lexStands_any (s : ByteArray) (w : World) (_hs : s.size ≤ maxLen) (hE : LexEnv w.heap.size w) :
    Calls Tryd.prog 3 #[.string s] w fun e w' => e = .returned (.bool true) ∧ Below w.heap.size w w' := by
  have HE := Lib.hid hE
  clear hE
  by_cases hs : 1500 < s.size
  · have hd : decide (1500 < s.size) = true := by simpa using hs
    have HLG := fun w => long_any s w
    rw [hd] at HLG
    go_enter Tryd.func3, Tryd.ntmps3
    go_wp2_with (first | (go_at_call 6; refine (cutUp_any _ HE.out).mono ?_; rintro e w1 ⟨rfl, hb1⟩) | (go_at_call 7; refine (HLG _).mono ?_; rintro e w2 ⟨rfl, rfl⟩))
    go_ret
    exact ⟨rfl, hb1⟩
  · have hd : decide (1500 < s.size) = false := by simpa using hs
    have HLG := fun w => long_any s w
    rw [hd] at HLG
    have hs4 : s.size ≤ 1500 := by omega
    have HNS : Hid (¬ 4000 < s.size) := Lib.hid (by omega)
    clear hs hd
    go_enter Tryd.func3, Tryd.ntmps3
    go_wp2_with (first | (go_at_call 6; refine (cutUp_any _ HE.out).mono ?_; rintro e w1 ⟨rfl, hb1⟩) | (go_at_call 7; refine (HLG _).mono ?_; rintro e w2 ⟨rfl, rfl⟩))
    have HE1 := Lib.hid (HE.out.below hb1 (Nat.le_refl _))
    refine (lex_any s w1 (HE1.out.mono hb1.size)).mono ?_
    rintro e w2 ⟨hsay, hb2⟩
    have HB2 : Hid (Below w.heap.size w w2) := Lib.hid (hb1.trans (hb2.mono hb1.size))
    unfold LexSays at hsay
    rw [if_neg HNS.out] at hsay
    have hst := lx_stands s.data.toList 0 false
    clear hb1 hb2 HLG
    generalize lx s.data.toList 0 false = res at *
    obtain ⟨ts, er⟩ := res
    cases er with
    | some p =>
      obtain ⟨r, a⟩ := p
      obtain ⟨x, rfl, b, rfl, _⟩ := hsay
      go_wp2_with fail
      go_ret
      exact ⟨rfl, HB2.out⟩
    | none =>
      obtain ⟨v, rfl, hown⟩ := hsay
      have HST := Lib.hid (hst ts rfl)
      have hrow := rowT_own hown
      clear hown hst
      have hv : ∃ ao cap, v = .slice ao ts.length cap ∧ ts.length ≤ cap ∧ cap ≤ maxLen := by
        rcases hrow with ⟨rfl, rfl⟩ | ⟨g, cap, rfl, h1, h2, _⟩
        · exact ⟨none, 0, rfl, Nat.le_refl _, Nat.zero_le _⟩
        · exact ⟨_, _, rfl, h1, h2⟩
      obtain ⟨ao, cap, rfl, hcap, hmx⟩ := hv
      have HROW := Lib.hid hrow
      clear hrow
      unfold maxLen at hmx
      have HTL : Hid (ts.length ≤ 9223372036854775807) := Lib.hid (by omega)
      go_wp2_with fail
      go_loopw [5, 6] (fun av iv wr => ∃ k p : Nat, k ≤ ts.length ∧ p ≤ s.size ∧ av = .int .i64 p ∧ iv = .int .i64 k ∧ StandsT (rs s p) p (ts.drop k) ∧ Below w2.heap.size w2 wr) (fun _ iv _ => ts.length - (intOf iv).toNat)
      case atStart => exact ⟨0, 0, Nat.zero_le _, Nat.zero_le _, rfl, rfl, by rw [rs_zero]; exact HST.out, Below.refl _ _⟩
      case round =>
        obtain ⟨k, p, hk, hp, rfl, rfl, hst, hb⟩ := hrel
        have HB := Lib.hid hb
        have HR : Hid (RowT wr (.slice ao ts.length cap) ts) := Lib.hid (HROW.out.below hb (Nat.le_refl _))
        clear hb
        by_cases hlt : k < ts.length
        · rw [List.drop_eq_getElem_cons hlt] at hst
          obtain ⟨t, ht⟩ : ∃ t, t = ts[k] := ⟨_, rfl⟩
          have hkt : ts[k]? = some t := by rw [ht]; exact List.getElem?_eq_getElem hlt
          rw [← ht] at hst
          obtain ⟨d, g1, g2, g3, g4, g5, g6⟩ := hst
          clear ht
          rw [rs_length] at g2 g5
          rw [rs_drop] at g4 g6
          rcases HR.out with ⟨_, h⟩ | ⟨g, cap', e, _, _, hg, hcells⟩
          · rw [h] at hlt; exact absurd hlt (Nat.not_lt_zero _)
          · injection e with e1 e2 e3
            subst e1
            subst e3
            obtain ⟨c0, c1, c2⟩ := hcells k t hkt
            have hts := mkT_size t.text
            have hx : s.extract (p + d) (p + d + t.text.length) = mkT t.text := by
              rw [← mkT_data (s.extract (p + d) (p + d + t.text.length)), rs_extract, Nat.add_sub_cancel_left, g4]
            have BT : Hid (∀ W, Calls Tryd.prog 9 #[.string (s.extract p (p + d))] W fun e w' => e = .returned (.bool true) ∧ W = w') := Lib.hid fun W => by
              refine between_any _ W (by rw [ByteArray.size_extract]; omega) ?_
              rw [rs_extract, Nat.add_sub_cancel_left]
              exact g3
            have hem : (mkT t.text).toList = t.text := Lib.toList_data _
            rw [g1] at c2
            have G5 : Hid (t.text = [] → k + 1 = ts.length ∧ p + d = s.size) := Lib.hid fun e => by
              obtain ⟨q1, q2⟩ := g5 e
              have := congrArg List.length q1
              rw [List.length_drop] at this
              simp at this
              omega
            have G6 := Lib.hid g6
            clear g1 g3 g4 g5 g6 hkt hcells
            generalize t.kind = kd at *
            generalize t.text = l at *
            generalize mkT l = T at *
            rw [← hts] at g2 G6 hx
            have G7 : Hid (T.size = 0 → k + 1 = ts.length ∧ p + d = s.size) := Lib.hid fun e => G5.out (List.eq_nil_of_length_eq_zero (by omega))
            have htn : T.toList.isEmpty = decide (T.size = 0) := by
              rw [hem, hts]
              cases l with
              | nil => rfl
              | cons b r => simp
            clear G5 hem hts
            obtain ⟨z, hz⟩ : ∃ z, z = p + d := ⟨_, rfl⟩
            rw [← hz] at c2 BT hx G7
            have hpz : p ≤ z := by omega
            have hzs : z + T.size ≤ s.size := by omega
            have G8 : Hid (StandsT (rs s (z + T.size)) (z + T.size) (ts.drop (k + 1))) := Lib.hid (by
              have := G6.out
              rw [show p + (d + T.size) = z + T.size by omega, show p + d + T.size = z + T.size by omega] at this
              exact this)
            clear G6 hz g2
            have BQ : Hid (∀ q : World, Calls Tryd.prog 9 #[.string (s.extract p z)] q fun e w' => e = .returned (.bool true) ∧ ∃ n, w' = q.drewN n) := Lib.hid fun q => (BT.out q).mono fun e w' ⟨h1, h2⟩ => ⟨h1, 0, h2.symm⟩
            have hend : Hid (∀ W : World, Below wr.heap.size wr W → Below w2.heap.size w2 W) := Lib.hid fun W hW => HB.out.trans (hW.mono HB.out.size)
            clear BT e2 hcap
            by_cases h0 : T.size = 0
            · obtain ⟨r1, r2⟩ := G7.out h0
              have htn' : T.toList.isEmpty = true := by rw [htn]; simpa using h0
              have hkt' := HTL.out
              subst r2
              have p0 : decide (k < ts.length - 1) = false := by rw [decide_eq_false_iff_not]; omega
              have q0 : decide (s.size < p) = false := by rw [decide_eq_false_iff_not]; omega
              have q1 : decide ((s.size : Int) < (p : Int)) = false := by rw [decide_eq_false_iff_not]; omega
              have q2 : decide ((s.size : Int) < (s.size : Int) + (T.size : Int)) = false := by rw [decide_eq_false_iff_not]; omega
              have q3 : (s.size : Int) ≤ (s.size : Int) + (T.size : Int) := by omega
              have q4 : (0 : Int) ≤ (s.size : Int) + (T.size : Int) ∧ (s.size : Int) + (T.size : Int) ≤ (s.size : Int) := by omega
              have q5 : ((s.size : Int) + (T.size : Int)).toNat = s.size + T.size := by omega
              have q6 : (p : Int) ≤ (s.size : Int) := by omega
              have q7 : (0 : Int) ≤ (s.size : Int) ∧ (s.size : Int) ≤ (s.size : Int) := by omega
              have hki : (k : Int) < (ts.length : Int) := by omega
              have hkii : (0 : Int) ≤ (k : Int) ∧ (k : Int) < (ts.length : Int) := by omega
              have p1 : IntKind.i64.wrap ((ts.length : Int) - 1) = (ts.length : Int) - 1 := IntWalk.i64_in _ (by omega)
              have p2 : decide ((k : Int) < (ts.length : Int) - 1) = false := by rw [decide_eq_false_iff_not]; omega
              have p3 : ((s.size : Int) == (s.size : Int)) = true := by rw [beq_iff_eq]
              have hwr : IntKind.i64.wrap ((s.size : Int) + (T.size : Int)) = (s.size : Int) + (T.size : Int) := IntWalk.i64_in _ (by omega)
              clear htn h0 G7 hkt'
              go_wp2_with fail
              go_quiet ((go_at_call 9; exact Calls.quiet_of (BQ.out _)))
              go_wp2_with fail
              go_roundw
              case rel => exact ⟨k + 1, s.size + T.size, by omega, hzs, rfl, by go_num, G8.out, hend.out _ (below_drewNs ((Below.refl _ _).alloc (Nat.le_refl _) _) _)⟩
              case measure => simp [intOf]; omega
            · have htn' : T.toList.isEmpty = false := by rw [htn]; simpa using h0
              have q0 : decide (z < p) = false := by rw [decide_eq_false_iff_not]; omega
              have q1 : decide ((z : Int) < (p : Int)) = false := by rw [decide_eq_false_iff_not]; omega
              have q2 : decide ((s.size : Int) < (z : Int) + (T.size : Int)) = false := by rw [decide_eq_false_iff_not]; omega
              have q3 : (z : Int) ≤ (z : Int) + (T.size : Int) := by omega
              have q4 : (0 : Int) ≤ (z : Int) + (T.size : Int) ∧ (z : Int) + (T.size : Int) ≤ (s.size : Int) := by omega
              have q5 : ((z : Int) + (T.size : Int)).toNat = z + T.size := by omega
              have q6 : (p : Int) ≤ (z : Int) := by omega
              have q7 : (0 : Int) ≤ (z : Int) ∧ (z : Int) ≤ (s.size : Int) := by omega
              have hki : (k : Int) < (ts.length : Int) := by omega
              have hkii : (0 : Int) ≤ (k : Int) ∧ (k : Int) < (ts.length : Int) := by omega
              have hwr : IntKind.i64.wrap ((z : Int) + (T.size : Int)) = (z : Int) + (T.size : Int) := IntWalk.i64_in _ (by omega)
              clear htn h0 G7
              go_wp2_with fail
              go_quiet ((go_at_call 9; exact Calls.quiet_of (BQ.out _)))
              go_wp2_with fail
              go_roundw
              case rel => exact ⟨k + 1, z + T.size, by omega, hzs, rfl, by go_num, G8.out, hend.out _ (below_drewNs ((Below.refl _ _).alloc (Nat.le_refl _) _) _)⟩
              case measure => simp [intOf]; omega
        · obtain rfl : k = ts.length := by omega
          have hki : ¬ (ts.length : Int) < (ts.length : Int) := by omega
          have hpi : (p : Int) ≤ (s.size : Int) := by omega
          rw [List.drop_eq_nil_of_le (Nat.le_refl _)] at hst
          have BT : Hid (∀ W, Calls Tryd.prog 9 #[.string (s.extract p s.size)] W fun e w' => e = .returned (.bool true) ∧ W = w') := Lib.hid fun W => by
            refine between_any _ W (by rw [extract_size _ _ hp]; omega) ?_
            rw [rs_extract_all]
            exact hst
          clear hst
          go_wp2_with (go_at_call 9; refine (BT.out _).mono ?_; rintro e w3 ⟨rfl, rfl⟩)
          go_ret
          exact ⟨rfl, HB2.out.trans (HB.out.mono HB2.out.size)⟩
end Go.Proofs.YtgmdnkhlkabaiaaDoor
