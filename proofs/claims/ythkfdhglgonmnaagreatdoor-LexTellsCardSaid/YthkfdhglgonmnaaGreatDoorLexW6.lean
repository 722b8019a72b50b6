/-
  The walks of package lex, sixth part: cutNumber.
-/
import Derived.Test.YthkfdhglgonmnaaGreatDoorLexW5
namespace Go.Proofs.YthkfdhglgonmnaaGreatDoor
open Go.RowKit Lx
variable {w w' : World} {cb a : Nat} {s : ByteArray} {v : Value} {ts : List Tok}

theorem digV_step (s : ByteArray) (k : Nat) (h : k < s.size) : digV (rs s k) = if isDg s[k] = true then digV (rs s (k + 1)) + 1 else 0 := by
  rw [rs_cons s k h]
  by_cases hd : isDg s[k] = true
  · rw [if_pos hd, digV_cons hd]
  · rw [if_neg hd, digV_no (by simpa using hd)]

set_option maxRecDepth 100000 in
set_option maxHeartbeats 12800000 in
theorem cutNumber_any (w : World) (h : CutAt w cb s a v ts) (ha : a < s.size) (hs : s.size ≤ 4000) (hl : ts.length ≤ 5000) (hE : LexEnv cb w) (hd : isDg s[a] = true) :
    Calls Tryz.prog 64 #[.pointer (some ⟨cb, 0, none⟩)] w fun e w' => CutSays w' cb s a ts e (numCut (rs s a)) ∧ Below cb w w' := by
  have H0 := Lib.hid h
  have HE := Lib.hid hE
  have c0 := h.c0
  have c1 := h.c1
  have hcb := h.lt
  have hn0 := digV_step s a ha
  rw [if_pos hd] at hn0
  have hnl := digV_le (rs s a)
  rw [rs_length] at hnl
  obtain ⟨n, hn⟩ : ∃ n, n = digV (rs s a) := ⟨_, rfl⟩
  obtain ⟨z, hz⟩ : ∃ z, z = a + n := ⟨_, rfl⟩
  have HD : Hid (∀ b ∈ (rs s a).take n, isDg b = true) := Lib.hid (by rw [hn, digV_take]; exact dg_all _)
  have HNC : Hid (numCut (rs s a) = if (1 < n ∧ s[a] = 48) ∨ 0 < letV (rs s z) then .err 3 else if bigV ((rs s a).take n) then .err 2 else .tok 3 n) := Lib.hid (by
    unfold numCut
    rw [← hn, rs_drop, ← hz, rs_cons s a ha]
    simp only [List.head?_cons, Option.some.injEq])
  rw [← hn] at hn0 hnl
  have HN := Lib.hid hn
  have HZ := Lib.hid hz
  have hn1 : 1 ≤ n := by omega
  have hza : a ≤ z := by omega
  have hzs : z ≤ s.size := by omega
  have HDL : Hid ((s.extract a z).data.toList = (rs s a).take n) := Lib.hid (by rw [rs_extract]; congr 1; omega)
  have hsz : (s.extract a z).size = n := by rw [ByteArray.size_extract]; omega
  have hpos : 0 < (s.extract a z).size := by rw [hsz]; exact hn1
  have h0 : (s.extract a z)[0]'hpos = s[a] := by
    have h1 := rs_cons (s.extract a z) 0 hpos
    have h2 : rs (s.extract a z) 0 = (rs s a).take n := by
      show (s.extract a z).data.toList.drop 0 = _
      rw [List.drop_zero]; exact HDL.out
    rw [h2, rs_cons s a ha] at h1
    obtain ⟨m, rfl⟩ : ∃ m, n = m + 1 := ⟨n - 1, by omega⟩
    rw [List.take_succ_cons] at h1
    exact (List.cons.inj h1).1.symm
  have HSZ := Lib.hid hsz
  clear h hE hn0 hn hz hsz
  have WR : Hid (∀ (r : Nat) (W : World), CutAt W cb s a v ts → Calls Tryz.prog 95 #[.pointer (some ⟨cb, 0, none⟩), .int .i64 r] W fun e w' => ∃ x, e = .returned x ∧ AtErr w' cb x r a ∧ Below W.heap.size W w') := Lib.hid fun r W hW => wrong_any r W hW
  have LT : Hid (∀ q, Calls Tryz.prog 65 #[.string s, .int .i64 z] (w.drewN q) fun e w' => e = .returned (.int .i64 (letV (rs s z))) ∧ Below (w.drewN q).heap.size (w.drewN q) w') := Lib.hid fun q => letter_any s z _ (by omega) (HE.out.drewN q).tabs
  go_enter Tryz.func64, Tryz.ntmps64
  go_wp2_with fail
  go_loop [3] (fun i => ∃ k : Nat, a ≤ k ∧ k ≤ s.size ∧ i = .int .i64 k ∧ z = k + digV (rs s k)) (fun i => s.size - (intOf i).toNat)
  case atStart => exact ⟨a, Nat.le_refl _, by omega, rfl, by rw [HZ.out, HN.out]⟩
  case round =>
    obtain ⟨k, hk1, hk2, rfl, hk⟩ := hrel
    have HKK := Lib.hid hk
    have hor : (∃ h : k < s.size, isDg s[k] = true) ∨ (k = z ∧ (∀ h : k < s.size, isDg s[k] = false)) := by
      by_cases hlt : k < s.size
      · have hst := digV_step s k hlt
        by_cases hdk : isDg s[k] = true
        · exact Or.inl ⟨hlt, hdk⟩
        · rw [if_neg hdk] at hst
          exact Or.inr ⟨by omega, fun _ => by simpa using hdk⟩
      · have : digV (rs s k) = 0 := by rw [rs_nil s k (by omega)]; rfl
        exact Or.inr ⟨by omega, fun h => absurd h hlt⟩
    clear hk
    rcases hor with ⟨hlt, hdk⟩ | ⟨rfl, hnd⟩
    · have hst := digV_step s k hlt
      have hli : (k : Int) < (s.size : Int) := by omega
      have hii : (0 : Int) ≤ (k : Int) ∧ (k : Int) < (s.size : Int) := by omega
      have HDG := fun w => isDigit_any s[k] w
      rw [hdk] at HDG
      rw [if_pos hdk] at hst
      have HST := Lib.hid hst
      clear hst hdk
      go_wp2_with (go_at_call 63; refine (HDG _).mono ?_; rintro e w2 ⟨rfl, rfl⟩)
      go_round
      case rel =>
        refine ⟨k + 1, by omega, by omega, by go_num, ?_⟩
        have h1 := HKK.out
        have h2 := HST.out
        omega
      case measure => simp [intOf]; omega
    · have HND := Lib.hid hnd
      clear hnd
      have hzi : (0 : Int) ≤ (k : Int) ∧ (k : Int) ≤ (s.size : Int) := by omega
      have hai : (a : Int) ≤ (k : Int) := by omega
      rcases Nat.lt_or_ge k s.size with hlt | hlt
      all_goals
        first
          | (have hli : (k : Int) < (s.size : Int) := by omega
             have hii : (0 : Int) ≤ (k : Int) ∧ (k : Int) < (s.size : Int) := by omega
             have HDG := fun w => isDigit_any (s[k]'hlt) w
             rw [HND.out hlt] at HDG
             go_wp2_with (go_at_call 63; refine (HDG _).mono ?_; rintro e w2 ⟨rfl, rfl⟩)
             clear HDG)
          | (have hli : ¬ (k : Int) < (s.size : Int) := by omega
             go_wp2_with fail)
      all_goals
        go_quiet (fail)
        generalize s.extract a k = D at *
        have hsz := HSZ.out
        subst hsz
        have BL : Hid (∀ (q : Nat) (w1 : World), Below (w.drewN q).heap.size (w.drewN q) w1 → Below cb w w1) := Lib.hid fun q w1 hb => ⟨hb.os, hb.tape, hb.output, hb.size, fun k hk => hb.block k (Nat.lt_trans hk hcb)⟩
        have CF : Hid (∀ (q : Nat) (w1 : World), Below (w.drewN q).heap.size (w.drewN q) w1 → CutAt w1 cb s a v ts ∧ LexEnv cb w1) := Lib.hid fun q w1 hb => ⟨(H0.out.drewN q).fresh hb, (HE.out.drewN q).below hb (Nat.le_of_lt hcb)⟩
        have PA : Hid (∀ W : World, ErrR W → Calls Tryz.prog 96 #[.string D, .int .i64 10, .int .i64 64] W fun e w' => (∃ n x, e = .returned (.tuple #[.int .i64 n, x]) ∧ if bigV D.data.toList = true then ∃ p, x = .iface 198 p else x = .nilIface) ∧ Below W.heap.size W w') :=
          Lib.hid fun W hW => parse_any D (by rw [HDL.out]; exact HD.out) hpos (by omega) W hW
        have TK : Hid (∀ W : World, CutAt W cb s a v ts → Calls Tryz.prog 62 #[.pointer (some ⟨cb, 0, none⟩), .int .i64 3, .int .i64 D.size] W fun e w' => e = .returned (.tuple #[]) ∧ ∃ v', CutAt w' cb s (a + D.size) v' (ts ++ [⟨3, (rs s a).take D.size, a⟩]) ∧ Below cb W w') :=
          Lib.hid fun W hW => take_any 3 D.size W hW (by have := HZ.out; omega) hs hl
        have hor2 : (1 < D.size ∧ s[a] = 48) ∨ (1 < D.size ∧ s[a] ≠ 48) ∨ ¬ 1 < D.size := by
          by_cases h1 : 1 < D.size
          · by_cases h2 : s[a] = 48
            · exact Or.inl ⟨h1, h2⟩
            · exact Or.inr (Or.inl ⟨h1, h2⟩)
          · exact Or.inr (Or.inr h1)
        have HDT : Hid (bigV ((rs s a).take D.size) = bigV D.data.toList) := Lib.hid (by rw [HDL.out])
        clear HD HN HSZ HDL hnl hn1 HKK HND
        rcases hor2 with ⟨h1, h2⟩ | hor2
        · have hi1 : (1 : Int) < (D.size : Int) := by omega
          have hi2 : (s[a].toNat : Int) = 48 := by rw [h2]; rfl
          have HR : Hid (numCut (rs s a) = .err 3) := Lib.hid (by rw [HNC.out, if_pos (Or.inl ⟨h1, h2⟩)])
          go_wp2_with (go_at_call 95; refine (WR.out 3 _ (H0.out.drewN _)).mono ?_; rintro e w1 ⟨x, rfl, hat, hb1⟩)
          go_ret
          rw [HR.out]
          exact ⟨⟨x, rfl, hat⟩, BL.out _ _ hb1⟩
        · have hno : ¬ (1 < D.size ∧ s[a] = 48) := by
            rintro ⟨g1, g2⟩
            rcases hor2 with ⟨_, h⟩ | h
            · exact h g2
            · exact h g1
          have HR : Hid (numCut (rs s a) = if 0 < letV (rs s k) then .err 3 else if bigV D.data.toList then .err 2 else .tok 3 D.size) := Lib.hid (by
            rw [HNC.out, HDT.out]
            by_cases hL : 0 < letV (rs s k)
            · rw [if_pos (Or.inr hL), if_pos hL]
            · rw [if_neg (fun h => by rcases h with h | h; exact hno h; exact hL h), if_neg hL])
          clear hno HNC
          have hor3 : (((1 : Int) < (D.size : Int)) ∧ ¬ ((s[a].toNat : Int) = 48)) ∨ ¬ ((1 : Int) < (D.size : Int)) := by
            rcases hor2 with ⟨g1, g2⟩ | g1
            · refine Or.inl ⟨by omega, fun e => g2 ?_⟩
              exact UInt8.toNat_inj.1 (by have : (48 : UInt8).toNat = 48 := rfl; omega)
            · exact Or.inr (by omega)
          clear hor2
          generalize letV (rs s k) = L at *
          by_cases hL : 0 < L
          · have hLi : (0 : Int) < (L : Int) := by omega
            rw [if_pos hL] at HR
            rcases hor3 with ⟨g1, g2⟩ | g1
            all_goals
              go_wp2_with (first | (go_at_call 65; refine (LT.out _).mono ?_; rintro e w1 ⟨rfl, hb1⟩) | (go_at_call 95; refine (WR.out 3 _ (CF.out _ _ hb1).1).mono ?_; rintro e w2 ⟨x, rfl, hat, hb2⟩))
              go_ret
              rw [HR.out]
              exact ⟨⟨x, rfl, hat⟩, (BL.out _ _ hb1).trans (hb2.mono (by have := (CF.out _ _ hb1).1.lt; omega))⟩
          · have hLi : ¬ (0 : Int) < (L : Int) := by omega
            rw [if_neg hL] at HR
            by_cases hB : bigV D.data.toList = true
            · rw [if_pos hB] at HR
              rcases hor3 with ⟨g1, g2⟩ | g1
              all_goals
                go_wp2_with (first | (go_at_call 65; refine (LT.out _).mono ?_; rintro e w1 ⟨rfl, hb1⟩) | (go_at_call 96; refine (PA.out _ (CF.out _ _ hb1).2.errR).mono ?_; rintro e w2 ⟨⟨m, x, rfl, hx⟩, hb2⟩; rw [if_pos hB] at hx; obtain ⟨p, rfl⟩ := hx) | (go_at_call 95; refine (WR.out 2 _ ((CF.out _ _ hb1).1.fresh hb2)).mono ?_; rintro e w3 ⟨y, rfl, hat, hb3⟩))
                go_ret
                rw [HR.out]
                have hc := (CF.out _ _ hb1).1
                exact ⟨⟨y, rfl, hat⟩, ((BL.out _ _ hb1).trans (hb2.mono (Nat.le_of_lt hc.lt))).trans (hb3.mono (Nat.le_of_lt (hc.fresh hb2).lt))⟩
            · rw [if_neg hB] at HR
              rcases hor3 with ⟨g1, g2⟩ | g1
              all_goals
                go_wp2_with (first | (go_at_call 65; refine (LT.out _).mono ?_; rintro e w1 ⟨rfl, hb1⟩) | (go_at_call 96; refine (PA.out _ (CF.out _ _ hb1).2.errR).mono ?_; rintro e w2 ⟨⟨m, x, rfl, hx⟩, hb2⟩; rw [if_neg hB] at hx; subst hx) | (go_at_call 62; refine (TK.out _ ((CF.out _ _ hb1).1.fresh hb2)).mono ?_; rintro e w3 ⟨rfl, v', hv', hb3⟩))
                go_ret
                rw [HR.out]
                have hc := (CF.out _ _ hb1).1
                exact ⟨⟨rfl, v', hv'⟩, ((BL.out _ _ hb1).trans (hb2.mono (Nat.le_of_lt hc.lt))).trans hb3⟩
end Go.Proofs.YthkfdhglgonmnaaGreatDoor
