/-
  The walk of the law LexAgain.
-/
import Derived.Test.YtgmdnkhlkabaiaaDoorLexOwn
namespace Go.Proofs.YtgmdnkhlkabaiaaDoor
open Go.RowKit Lx

theorem outV_append (a b : List Tok) : outV (a ++ b) = outV a ++ outV b := by simp [outV]
theorem outV_len : ∀ (l : B) (a : Nat) (may : Bool) (ts : List Tok), lx l a may = (ts, none) → (outV ts).length ≤ 2 * l.length + 2 := by
  refine lx_induct (fun l _ _ ts => (outV ts).length ≤ 2 * l.length + 2) ?_ ?_ ?_
  · intro a may
    cases may <;> simp [endV, outV, againT]
  · intro l a may n ts _ _ _ h2 _ ih
    rw [List.length_drop] at ih
    omega
  · intro l a may k n ts _ _ h1 h2 _ ih
    rw [List.length_drop] at ih
    have e : (outV (⟨k, l.take n, a⟩ :: ts)).length = (againT ⟨k, l.take n, a⟩).length + 1 + (outV ts).length := by simp [outV]; omega
    have hl : (againT ⟨k, l.take n, a⟩).length ≤ n := by
      unfold againT
      split
      · simpa using h1
      · simp; omega
    omega
def agT (t : Tok) : Tok := ⟨t.kind, againT t, t.at_⟩
theorem drop_cons {α : Type} {l : List α} {k : Nat} {x : α} (h : l[k]? = some x) : l.drop k = x :: l.drop (k + 1) := by
  obtain ⟨hk, rfl⟩ := List.getElem?_eq_some_iff.1 h
  exact List.drop_eq_getElem_cons hk
theorem take_snoc {α : Type} {l : List α} {k : Nat} {x : α} (h : l[k]? = some x) : l.take (k + 1) = l.take k ++ [x] := by
  obtain ⟨hk, rfl⟩ := List.getElem?_eq_some_iff.1 h
  exact List.take_succ_eq_append_getElem hk
theorem mixed_at {ts : List Tok} {k : Nat} (hk : k ≤ ts.length) : ((ts.take k).map agT ++ ts.drop k)[k]? = ts[k]? := by
  have hl : ((ts.take k).map agT).length = k := by simp; omega
  rw [List.getElem?_append_right (by omega), hl, Nat.sub_self, List.getElem?_drop, Nat.add_zero]
theorem mixed_next {ts : List Tok} {k : Nat} {t : Tok} (h : ts[k]? = some t) : ((ts.take k).map agT ++ ts.drop k).set k (agT t) = (ts.take (k + 1)).map agT ++ ts.drop (k + 1) := by
  have hk : k < ts.length := (List.getElem?_eq_some_iff.1 h).1
  have hl : ((ts.take k).map agT).length = k := by simp; omega
  rw [drop_cons h, take_snoc h, List.map_append, List.set_append_right _ _ (by omega), hl, Nat.sub_self, List.append_assoc]
  rfl

theorem set_same {α : Type} {l : List α} {k : Nat} {x : α} (h : l[k]? = some x) : l.set k x = l := by
  apply List.ext_getElem?
  intro i
  by_cases e : k = i
  · subst e
    rw [List.getElem?_set_self (List.getElem?_eq_some_iff.1 h).1, h]
  · rw [List.getElem?_set_ne e]
theorem same_at {ts us : List Tok} (h : Same ts us) : us.length = ts.length ∧ ∀ (i : Nat) (t : Tok), ts[i]? = some t → ∃ u, us[i]? = some u ∧ u.kind = t.kind ∧ u.text = againT t := by
  unfold Same at h
  refine ⟨by have := congrArg List.length h; simpa using this.symm, fun i t ht => ?_⟩
  have := congrArg (fun l => l[i]?) h
  simp only [List.getElem?_map, ht, Option.map_some] at this
  cases hu : us[i]? with
  | none => rw [hu] at this; cases this
  | some u =>
    rw [hu] at this
    simp only [Option.map_some, Option.some.injEq, Prod.mk.injEq] at this
    exact ⟨u, rfl, this.1.symm, this.2.symm⟩

set_option maxRecDepth 100000 in
set_option maxHeartbeats 12800000 in
theorem lexAgain_any (s : ByteArray) (w : World) (_hs : s.size ≤ maxLen) (hE : LexEnv w.heap.size w) :
    Calls Tryd.prog 4 #[.string s] w fun e w' => e = .returned (.bool true) ∧ Below w.heap.size w w' := by
  have HE := Lib.hid hE
  clear hE
  by_cases hs : 1500 < s.size
  · have hd : decide (1500 < s.size) = true := by simpa using hs
    have HLG := fun w => long_any s w
    rw [hd] at HLG
    go_enter Tryd.func4, Tryd.ntmps4
    go_wp2_with (first | (go_at_call 6; refine (cutUp_any _ HE.out).mono ?_; rintro e w1 ⟨rfl, hb1⟩) | (go_at_call 7; refine (HLG _).mono ?_; rintro e w2 ⟨rfl, rfl⟩))
    go_ret
    exact ⟨rfl, hb1⟩
  · have hd : decide (1500 < s.size) = false := by simpa using hs
    have HLG := fun w => long_any s w
    rw [hd] at HLG
    have hs4 : s.size ≤ 1500 := by omega
    have HNS : Hid (¬ 4000 < s.size) := Lib.hid (by omega)
    clear hs hd
    go_enter Tryd.func4, Tryd.ntmps4
    go_wp2_with (first | (go_at_call 6; refine (cutUp_any _ HE.out).mono ?_; rintro e w1 ⟨rfl, hb1⟩) | (go_at_call 7; refine (HLG _).mono ?_; rintro e w2 ⟨rfl, rfl⟩))
    have HE1 := Lib.hid (HE.out.below hb1 (Nat.le_refl _))
    have HB1 := Lib.hid hb1
    refine (lex_any s w1 (HE1.out.mono hb1.size)).mono ?_
    rintro e w2 ⟨hsay, hb2⟩
    have HB2 := Lib.hid hb2
    unfold LexSays at hsay
    rw [if_neg HNS.out] at hsay
    have hag := lx_again s.data.toList 0 false
    have hln := outV_len s.data.toList 0 false
    have hsz : s.data.toList.length = s.size := by simp
    rw [hsz] at hln
    clear hb1 hb2 HLG hsz
    generalize lx s.data.toList 0 false = res at *
    obtain ⟨ts, er⟩ := res
    cases er with
    | some p =>
      obtain ⟨r, a⟩ := p
      obtain ⟨x, rfl, b, rfl, _⟩ := hsay
      clear hag hln
      go_wp2_with fail
      go_ret
      exact ⟨rfl, HB1.out.trans (HB2.out.mono HB1.out.size)⟩
    | none =>
      obtain ⟨v, rfl, hown⟩ := hsay
      obtain ⟨us, hus, hsame⟩ := hag ts rfl 0
      have hL := hln ts rfl
      have HUS := Lib.hid hus
      have HSAME := Lib.hid hsame
      have HLN : Hid ((outV ts).length ≤ 3002) := Lib.hid (by omega)
      clear hag hln hus hsame hL
      obtain ⟨ao, cap, rfl, hcap, hmx⟩ := own_slice hown
      unfold maxLen at hmx
      have HOWN := Lib.hid hown
      clear hown
      go_wp2_with fail
      go_loopw [5, 6] (fun tv iv wr => ∃ (k : Nat) (T : ByteArray), k ≤ ts.length ∧ iv = .int .i64 k ∧ tv = .string T ∧ T.data.toList = outV (ts.take k) ∧ wr.ownsRow (w1.heap.size + 1) 30 3 (.slice ao ts.length cap) ts.length (cellsT ((ts.take k).map agT ++ ts.drop k)) ∧ Below w1.heap.size w1 wr) (fun _ iv _ => ts.length - (intOf iv).toNat)
      case atStart => exact ⟨0, _, Nat.zero_le _, rfl, rfl, rfl, HOWN.out, HB2.out⟩
      case round =>
        obtain ⟨k, T, hk, rfl, rfl, hT, hown, hb⟩ := hrel
        have HT := Lib.hid hT
        have HO := Lib.hid hown
        have HB := Lib.hid hb
        clear hT hown hb
        by_cases hlt : k < ts.length
        · obtain ⟨g, rfl, hbase, hg, _, _, hfr⟩ := own_form HO.out (by omega)
          obtain ⟨t, hkt⟩ : ∃ t, ts[k]? = some t := ⟨_, List.getElem?_eq_getElem hlt⟩
          have hmx2 := mixed_at (Nat.le_of_lt hlt)
          rw [hkt] at hmx2
          obtain ⟨c0, c1, c2⟩ := own_cells HO.out k t hmx2
          have z1 := hfr (k * 3 + 1)
          have HKT := Lib.hid hkt
          have hki : (k : Int) < (ts.length : Int) := by omega
          have hkii : (0 : Int) ≤ (k : Int) ∧ (k : Int) < (ts.length : Int) := by omega
          have htk : outV (ts.take (k + 1)) = outV (ts.take k) ++ (againT t ++ [32]) := by
            rw [take_snoc hkt, outV_append]; simp [outV]
          have hpre : (outV (ts.take (k + 1))).length ≤ (outV ts).length := by
            conv => rhs; rw [← List.take_append_drop (k + 1) ts, outV_append]
            rw [List.length_append]; omega
          have HTK := Lib.hid htk
          have hTs : T.size + (againT t).length + 1 ≤ 3002 := by
            have h1 := HLN.out
            have h2 : T.size = (outV (ts.take k)).length := by rw [← HT.out]; simp
            rw [htk, List.length_append, List.length_append] at hpre
            simp at hpre
            omega
          have NX : Hid (((ts.take k).map agT ++ ts.drop k).set k (agT t) = (ts.take (k + 1)).map agT ++ ts.drop (k + 1)) := Lib.hid (mixed_next hkt)
          have MX : Hid (((ts.take k).map agT ++ ts.drop k)[k]? = some t) := Lib.hid hmx2
          clear hkt hfr hmx2 hpre htk
          by_cases h5 : t.kind = 5
          · have hA : againT t = [59] := by unfold againT; rw [if_pos h5]
            rw [hA] at hTs
            have h5i : (t.kind : Int) = 5 := by omega
            rw [h5i] at c0
            go_wp2_with fail
            refine ⟨⟨k + 1, _, by omega, rfl, rfl, ?_, ?_, HB.out.setCell (by show w1.heap.size ≤ g; omega) _⟩, ?_⟩
            · rw [HTK.out, hA, ← HT.out]; simp
            · have h2 := own_set HO.out (off := k * 3 + 1) (.string (mkT [59]))
              rw [cellsT_text _ k t [59] MX.out] at h2
              have h3 := NX.out
              have hag : agT t = ⟨t.kind, [59], t.at_⟩ := by unfold agT; rw [hA]
              rw [hag] at h3
              rw [h3] at h2
              exact h2
            · simp [intOf]; omega
          · have hA : againT t = t.text := by unfold againT; rw [if_neg h5]
            rw [hA] at hTs
            have h5i : ¬ (t.kind : Int) = 5 := by omega
            have hms := mkT_size t.text
            have hms2 : T.size + (mkT t.text).size + 1 ≤ 3002 := by omega
            have NX2 : Hid ((ts.take k).map agT ++ ts.drop k = (ts.take (k + 1)).map agT ++ ts.drop (k + 1)) := Lib.hid (by
              have h3 := NX.out
              have hag : agT t = t := by unfold agT; rw [hA]
              rw [hag, set_same MX.out] at h3
              exact h3)
            clear hms hTs
            go_wp2_with fail
            refine ⟨⟨k + 1, _, by omega, rfl, rfl, ?_, ?_, HB.out⟩, ?_⟩
            · rw [HTK.out, hA, ← HT.out]; simp [mkT_list]
            · rw [← NX2.out]; exact HO.out
            · simp [intOf]; omega
        · obtain rfl : k = ts.length := by omega
          have hki : ¬ (ts.length : Int) < (ts.length : Int) := by omega
          have HT2 : Hid (T.data.toList = outV ts) := Lib.hid (by rw [HT.out, List.take_length])
          have hTs : T.size ≤ 3002 := by
            have h1 : T.data.toList.length = T.size := by simp
            have h2 := HLN.out
            rw [HT2.out] at h1
            omega
          have HNS2 : Hid (¬ 4000 < T.size) := Lib.hid (by omega)
          have HO2 : Hid (wr.ownsRow (w1.heap.size + 1) 30 3 (.slice ao ts.length cap) ts.length (cellsT (ts.map agT))) := Lib.hid (by
            have := HO.out
            rw [List.take_length, List.drop_length, List.append_nil] at this
            exact this)
          clear HT HO
          go_wp2_with fail
          refine (lex_any T wr ((HE1.out.below HB.out HB1.out.size).mono (Nat.le_trans HB1.out.size HB.out.size))).mono ?_
          rintro e w4 ⟨hsay, hb4⟩
          unfold LexSays at hsay
          rw [if_neg HNS2.out, HT2.out, HUS.out] at hsay
          obtain ⟨v4, rfl, hown4⟩ := hsay
          obtain ⟨hul, hat⟩ := same_at HSAME.out
          rw [hul] at hown4
          obtain ⟨ao4, cap4, rfl, hcap4, hmx4⟩ := own_slice hown4
          have HR4 : Hid (RowT w4 (.slice ao4 ts.length cap4) us) := Lib.hid (rowT_own (by rw [hul]; exact hown4))
          have HR1 : Hid (RowT w4 (.slice ao ts.length cap) (ts.map agT)) := Lib.hid ((rowT_own (by rw [List.length_map]; exact HO2.out)).below hb4 (Nat.le_refl _))
          have HBF : Hid (Below w.heap.size w w4) := Lib.hid (HB1.out.trans ((HB.out.trans (hb4.mono HB.out.size)).mono HB1.out.size))
          have HAT := Lib.hid hat
          have HUL := Lib.hid hul
          have HTL : Hid (ts.length ≤ 9223372036854775807) := Lib.hid (by omega)
          clear hown4 hb4 hul hat hTs
          go_wp2_with fail
          go_loopw [8] (fun iv wx => ∃ k : Nat, k ≤ ts.length ∧ iv = .int .i64 k ∧ ∃ q, wx = w4.drewN q) (fun iv _ => ts.length - (intOf iv).toNat)
          case atStart => exact ⟨0, Nat.zero_le _, rfl, 0, rfl⟩
          case round =>
            obtain ⟨k, hk, rfl, q, rfl⟩ := hrel
            by_cases hlt : k < ts.length
            · obtain ⟨t, hkt⟩ : ∃ t, ts[k]? = some t := ⟨_, List.getElem?_eq_getElem hlt⟩
              obtain ⟨u, hku, hk1, hk2⟩ := HAT.out k t hkt
              rcases HR4.out with ⟨_, h⟩ | ⟨g4, cap4', e4, _, _, hg4, hcells4⟩
              · have h2 := HUL.out
                rw [h] at h2
                simp only [List.length_nil] at h2
                omega
              rcases HR1.out with ⟨_, h⟩ | ⟨g1, cap1', e1, _, _, hg1, hcells1⟩
              · have h2 := congrArg List.length h
                rw [List.length_map, List.length_nil] at h2
                omega
              injection e4 with e41 e42 e43
              injection e1 with e11 e12 e13
              subst e41
              subst e11
              obtain ⟨a0, a1, a2⟩ := hcells4 k u hku
              obtain ⟨b0, b1, b2⟩ := hcells1 k (agT t) (by rw [List.getElem?_map, hkt]; rfl)
              rw [hk1] at a0
              rw [hk2] at a1
              have b0' : w4.cell? ⟨g1, k * 3, none⟩ = some (.int .i64 t.kind) := b0
              have b1' : w4.cell? ⟨g1, k * 3 + 1, none⟩ = some (.string (mkT (againT t))) := b1
              clear b0 b1 b2 a2 hcells1 hcells4 e42 e43 e12 e13 hk1 hk2 hku hkt
              generalize mkT (againT t) = S at *
              generalize t.kind = K at *
              have hki : (k : Int) < (ts.length : Int) := by omega
              have hkii : (0 : Int) ≤ (k : Int) ∧ (k : Int) < (ts.length : Int) := by omega
              go_wp2_with fail
              go_quiet (fail)
              go_wp2_with fail
              go_roundw
              case rel => exact ⟨k + 1, by omega, by go_num, _, rfl⟩
              case measure => simp [intOf]; omega
            · obtain rfl : k = ts.length := by omega
              have hki : ¬ (ts.length : Int) < (ts.length : Int) := by omega
              go_wp2_with fail
              go_ret
              exact ⟨rfl, below_drewNs HBF.out _⟩
end Go.Proofs.YtgmdnkhlkabaiaaDoor
