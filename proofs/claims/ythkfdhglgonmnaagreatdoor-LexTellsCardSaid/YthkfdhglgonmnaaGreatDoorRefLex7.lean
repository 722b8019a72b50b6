/-
  The walk of the reference's Lex.
-/
import Derived.Test.YthkfdhglgonmnaaGreatDoorRefLex6
namespace Go.Proofs.YthkfdhglgonmnaaGreatDoor
open Go.RowKit Lx

/-- What the reference's Lex answers. -/
def RLexSays (w w' : World) (s : ByteArray) (e : Ending) : Prop :=
  if 4000 < s.size then e = .returned (.tuple #[.slice none 0 0, .agg #[.int .i64 4, .int .i64 (-1)]])
  else match lx s.data.toList 0 false with
    | (ts, none) => ∃ v, e = .returned (.tuple #[v, .agg #[.int .i64 0, .int .i64 (-1)]]) ∧ w'.ownsRow (w.heap.size + 1) 35 3 v ts.length (cellsT ts)
    | (_, some (r, a)) => e = .returned (.tuple #[.slice none 0 0, .agg #[.int .i64 r, .int .i64 a]])

theorem cut_take (s : ByteArray) (k n : Nat) : (s.extract k s.size).extract 0 n = mkT ((rs s k).take n) := by
  rw [← mkT_data ((s.extract k s.size).extract 0 n), rs_extract, rs_zero, rs_extract_all, Nat.sub_zero]
theorem u8_ne {b c : UInt8} {x : Int} (hx : (c.toNat : Int) = x) (h : ¬ b = c) : ¬ ((b.toNat : Int) = x) := fun e => h (UInt8.toNat_inj.1 (by omega))
theorem owns_geT {w : World} {base n : Nat} {v : Value} {xs : List Value} {e : TypeId} (h : w.ownsRow base e 3 v n xs) : ∀ b, v.ownBlock = some b → base ≤ b := by
  intro b hb
  rcases h.2 with ⟨rfl, _⟩ | ⟨g, cap, cur, rfl, hge, _⟩
  · cases hb
  · simp only [Value.ownBlock, Option.some.injEq] at hb; omega
theorem info_row : (Tryz.prog.info? 35).map (fun i => (i.zero, i.size, i.bytes)) = some (some (.agg #[.int .i64 0, .string ByteArray.empty, .int .i64 0]), 3, 32) := info_token

set_option maxRecDepth 100000 in
set_option maxHeartbeats 12800000 in
theorem rLex_any (s : ByteArray) (w0 : World) (hT : Tabs w0) (hM : MaxL w0) :
    Calls Tryz.prog 10 #[.string s] w0 fun e w' => RLexSays w0 w' s e ∧ Below w0.heap.size w0 w' := by
  by_cases hs : 4000 < s.size
  · have hi : (4000 : Int) < (s.size : Int) := by omega
    go_enter Tryz.func10, Tryz.ntmps10
    go_wp2_with fail
    refine bodyPost_ret (v := .tuple #[.slice none 0 0, .agg #[.int .i64 4, .int .i64 (-1)]]) (by simp [results, Tryz.results10, go_sem, *] <;> rfl) rfl ?_
    exact ⟨by unfold RLexSays; rw [if_pos hs], (Below.refl _ _).alloc (Nat.le_refl _) _⟩
  · have hi : ¬ (4000 : Int) < (s.size : Int) := by omega
    have hs4 : s.size ≤ 4000 := by omega
    obtain ⟨i0, hI, hz0, hz1, hz2⟩ := tinfo info_row
    have HIN := Lib.hid (And.intro hI (And.intro hz0 (And.intro hz1 hz2)))
    obtain ⟨fb, hfb⟩ : ∃ fb, fb = w0.heap.size := ⟨_, rfl⟩
    have HFB := Lib.hid hfb
    have HS : Hid (∀ (w' : World) (e : Ending), (match lx (rs s 0) 0 false with
      | (ts, none) => ∃ v, e = .returned (.tuple #[v, .agg #[.int .i64 0, .int .i64 (-1)]]) ∧ w'.ownsRow (fb + 1) 35 3 v ts.length (cellsT ts)
      | (_, some (r, a)) => e = .returned (.tuple #[.slice none 0 0, .agg #[.int .i64 r, .int .i64 a]])) → Below w0.heap.size w0 w' → RLexSays w0 w' s e ∧ Below w0.heap.size w0 w') := Lib.hid fun w' e h hb => by
        refine ⟨?_, hb⟩
        unfold RLexSays
        rw [if_neg hs, ← rs_zero, ← hfb]
        exact h
    clear hs hI hz0 hz1 hz2
    have HT := Lib.hid hT
    have HM := Lib.hid hM
    clear hT hM
    go_enter Tryz.func10, Tryz.ntmps10
    go_wp2_with fail
    have HW0 : Hid (Below w0.heap.size w0 (w0.alloc (.cells #[.int .i64 0, .int .i64 0] 26))) := Lib.hid ((Below.refl _ _).alloc (Nat.le_refl _) _)
    have HWS : Hid ((w0.alloc (.cells #[.int .i64 0, .int .i64 0] 26)).heap.size = fb + 1) := Lib.hid (by rw [hfb]; simp)
    have HC0 : Hid ((w0.alloc (.cells #[.int .i64 0, .int .i64 0] 26)).cell? ⟨fb, 0, none⟩ = some (.int .i64 0) ∧ (w0.alloc (.cells #[.int .i64 0, .int .i64 0] 26)).cell? ⟨fb, 1, none⟩ = some (.int .i64 0) ∧
      ∀ j, (w0.alloc (.cells #[.int .i64 0, .int .i64 0] 26)).frozen? ⟨fb, j, none⟩ = false) := Lib.hid (by
      refine ⟨by rw [hfb, World.cell?_alloc_at _ _ _ _ rfl]; rfl, by rw [hfb, World.cell?_alloc_at _ _ _ _ rfl]; rfl, fun j => ?_⟩
      rw [hfb]; exact World.frozen?_alloc_new _ _ _ _)
    rw [← hfb]
    clear hfb
    generalize w0.alloc (.cells #[.int .i64 0, .int .i64 0] 26) = w at *
    have HFC : Hid (∀ wr, Below w.heap.size w wr → (wr.cell? ⟨fb, 0, none⟩ = some (.int .i64 0) ∧ wr.cell? ⟨fb, 1, none⟩ = some (.int .i64 0) ∧ wr.frozen? ⟨fb, 0, none⟩ = false ∧ wr.frozen? ⟨fb, 1, none⟩ = false) ∧ Tabs wr ∧ MaxL wr ∧ Below w0.heap.size w0 wr) := Lib.hid fun wr hb => by
      have hlt : fb < w.heap.size := by rw [HWS.out]; omega
      obtain ⟨c0, c1, c2⟩ := HC0.out
      refine ⟨⟨?_, ?_, ?_, ?_⟩, (HT.out.next HW0.out).next hb, (HM.out.below HW0.out).below hb, HW0.out.trans (hb.mono HW0.out.size)⟩
      · rw [hb.cell (p := ⟨fb, 0, none⟩) hlt]; exact c0
      · rw [hb.cell (p := ⟨fb, 1, none⟩) hlt]; exact c1
      · rw [hb.frozen (p := ⟨fb, 0, none⟩) hlt]; exact c2 0
      · rw [hb.frozen (p := ⟨fb, 1, none⟩) hlt]; exact c2 1
    go_loopw [4, 5] (fun v i wr => ∃ k ts, i = .int .i64 (k : Nat) ∧ RL w wr s v k ts) (fun _ i _ => s.size - (intOf i).toNat)
    case atStart =>
      refine ⟨0, [], rfl, ⟨Nat.zero_le _, World.ownsRow_nil _ _ _ _, (fun t h => by cases h), Nat.le_refl _, Below.refl _ _, ?_⟩⟩
      simp [mayL_nil]
    case round =>
      obtain ⟨k, ts, rfl, hrl⟩ := hrel
      have HR := Lib.hid hrl
      have hk := hrl.hk
      obtain ⟨⟨f0, f1, f2, f3⟩, ht, hm, hbw⟩ := HFC.out _ hrl.bel
      have HTR := Lib.hid ht
      have HMR := Lib.hid hm
      have HBW := Lib.hid hbw
      clear hrl ht hm hbw
      by_cases hlt : k < s.size
      · have hli : (k : Int) < (s.size : Int) := by omega
        have hle : (k : Int) ≤ (s.size : Int) := by omega
        have hcons := rs_cons s k hlt
        have hpre := rs_extract_all s k
        have hrsz : (s.extract k s.size).size = s.size - k := by rw [ByteArray.size_extract]; omega
        have hr0 : 0 < (s.extract k s.size).size := by omega
        have hb0 : (s.extract k s.size)[0]'hr0 = s[k] := by
          have h1 : (s.extract k s.size).data.toList = s[k] :: rs s (k + 1) := by rw [hpre, hcons]
          have h2 : (s.extract k s.size)[0]'hr0 = (s.extract k s.size).data.toList[0]'(by rw [h1]; simp) := rfl
          rw [h2]
          simp only [h1, List.getElem_cons_zero]
        have hri : (0 : Int) < ((s.extract k s.size).size : Int) := by omega
        have SKIP : Hid (∀ n wx, stepV (rs s k) (mayL ts) = .skip n → Below wr.heap.size wr wx → (∃ k_1 ts, Value.int IntKind.i64 ((k : Int) + (n : Int)) = Value.int IntKind.i64 (k_1 : Nat) ∧ RL w wx s u4 k_1 ts) ∧ s.size - (intOf (Value.int IntKind.i64 ((k : Int) + (n : Int)))).toNat < s.size - (intOf (Value.int IntKind.i64 k)).toNat) := Lib.hid fun n wx hst hb => by
          have h1 := (Lx.step_skip (rne hlt) hst).1
          exact ⟨⟨k + n, ts, by rw [Int.natCast_add], (HR.out.skip hlt hst).fresh hb⟩, by simp [intOf]; omega⟩
        by_cases hbl : isBl s[k] = true
        · have hst : ∀ may, stepV (rs s k) may = .skip 1 := fun may => by rw [hcons, stepV_cons, if_pos hbl]
          have hb3 : s[k].toNat = 32 ∨ s[k].toNat = 9 ∨ s[k].toNat = 13 := by simp [isBl] at hbl; omega
          have E1 := Lib.hid (SKIP.out 1 wr (hst _) (Below.refl _ _))
          clear hbl hcons hpre hst
          rcases hb3 with h3 | h3 | h3
          · have hi3 : (s[k].toNat : Int) = 32 := by omega
            go_wp2_with fail
            exact E1.out
          · have hi3 : (s[k].toNat : Int) = 9 := by omega
            go_wp2_with fail
            exact E1.out
          · have hi3 : (s[k].toNat : Int) = 13 := by omega
            go_wp2_with fail
            exact E1.out
        · have hbl' : isBl s[k] = false := by simpa using hbl
          have h32 : ¬ ((s[k].toNat : Int) = 32) := by simp [isBl] at hbl'; omega
          have h9 : ¬ ((s[k].toNat : Int) = 9) := by simp [isBl] at hbl'; omega
          have h13 : ¬ ((s[k].toNat : Int) = 13) := by simp [isBl] at hbl'; omega
          have HP0 := Tryz.strings_HasPrefix (s.extract k s.size) ⟨#[47, 47]⟩ wr
          rw [hpre] at HP0
          have hlh : Lib.hasPrefix (rs s k) (⟨#[47, 47]⟩ : ByteArray).data.toList = [47, 47].isPrefixOf (rs s k) := rfl
          rw [hlh] at HP0
          by_cases hp : [47, 47].isPrefixOf (rs s k) = true
          · have hst : ∀ may, stepV (rs s k) may = .skip (lineV (rs s k)) := fun may => by rw [hcons] at hp ⊢; rw [stepV_cons, if_neg hbl, if_pos hp]
            rw [hp] at HP0
            have HP := Lib.hid HP0
            have HF := Lib.hid (rFirst_any (s.extract k s.size) wr (by omega) (by omega) HMR.out)
            rw [hpre] at HF
            have E1 := Lib.hid fun wx => SKIP.out (lineV (rs s k)) wx (hst _)
            have hll := lineV_le (rs s k)
            rw [rs_length] at hll
            clear hbl hbl' hcons hpre hst hp HP0 hlh
            generalize lineV (rs s k) = m at *
            go_wp2_with (first | (go_at_call 26; refine HP.out.mono ?_; rintro e w2 ⟨rfl, rfl⟩) | (go_at_call 27; refine HF.out.mono ?_; rintro e w3 ⟨x, L, rfl, hcx, hxs, hb3⟩))
            exact E1.out _ hb3
          · have hp' : [47, 47].isPrefixOf (rs s k) = false := Bool.eq_false_iff.2 hp
            rw [hp'] at HP0
            have HP := Lib.hid HP0
            have hst : stepV (rs s k) (mayL ts) = if s[k] = 10 then (if mayL ts then .cut (.tok 5 1) else .skip 1) else .cut (cutV (rs s k)) := by
              rw [hcons] at hp ⊢; rw [stepV_cons, if_neg hbl, if_neg hp]
            have TOK : Hid (∀ (kd n : Nat) (wx w' : World) (v' : Value) (o : Obj), stepV (rs s k) (mayL ts) = .cut (.tok kd n) → RL w wx s u4 k ts → (wx.alloc o).grownBy w' u4.ownBlock →
                w'.ownsRow w.heap.size 35 3 v' (ts.length + 1) (cellsT ts ++ [.int .i64 kd, .string ((s.extract k s.size).extract 0 n), .int .i64 k]) →
                (∃ k_1 ts, Value.int IntKind.i64 ((k : Int) + (n : Int)) = Value.int IntKind.i64 (k_1 : Nat) ∧ RL w w' s v' k_1 ts) ∧ s.size - (intOf (Value.int IntKind.i64 ((k : Int) + (n : Int)))).toNat < s.size - (intOf (Value.int IntKind.i64 k)).toNat) := Lib.hid fun kd n wx w' v' o hst hx hg ho => by
              have h1 := (step_tok (rne hlt) hst).1
              rw [cut_take] at ho
              exact ⟨⟨k + n, _, by rw [Int.natCast_add], hx.tok hs4 hlt hst (hx.grown hg) ho⟩, by simp [intOf]; omega⟩
            by_cases h10 : s[k] = 10
            · have hi10 : (s[k].toNat : Int) = 10 := by rw [h10]; rfl
              rw [if_pos h10] at hst
              have HMY := HR.out.may hs4 HMR.out
              cases hml : mayL ts with
              | false =>
                have hs1 : stepV (rs s k) (mayL ts) = .skip 1 := by rw [hst, hml]; rfl
                have E1 := Lib.hid fun wx => SKIP.out 1 wx hs1
                rw [hml] at HMY
                have HY := Lib.hid HMY
                clear hbl hbl' hcons hpre hst hp hp' HP0 hlh hs1 h10 HMY hml
                go_wp2_with (first | (go_at_call 26; refine HP.out.mono ?_; rintro e w2 ⟨rfl, rfl⟩) | (go_at_call 28; refine HY.out.mono ?_; rintro e w3 ⟨rfl, hb3⟩))
                exact E1.out _ hb3
              | true =>
                have hs1 : stepV (rs s k) (mayL ts) = .cut (.tok 5 1) := by rw [hst, hml]; rfl
                have E1 := Lib.hid fun wx w' v' o => TOK.out 5 1 wx w' v' o hs1
                rw [hml] at HMY
                have HY := Lib.hid HMY
                clear hbl hbl' hcons hpre hst hp hp' HP0 hlh hs1 h10 HMY hml
                go_wp2_with (first | (go_at_call 26; refine HP.out.mono ?_; rintro e w2 ⟨rfl, rfl⟩) | (go_at_call 28; refine HY.out.mono ?_; rintro e w3 ⟨rfl, hb3⟩; have HRX := Lib.hid (HR.out.fresh hb3)) | (at_builtin; refine wpList_append_own _ rfl _ _ 23 rfl w.heap.size 35 i0 (.agg #[.int .i64 0, .string ByteArray.empty, .int .i64 0]) 3 32 Tryz.underlying23 HIN.out.1 HIN.out.2.1 HIN.out.2.2.1 HIN.out.2.2.2 rfl (by decide) _ _ _ rfl (World.ownsRow.alloc HRX.out.own _) ⟨_, 0, none⟩ 1 1 [.int .i64 5, .string ((s.extract k s.size).extract 0 1), .int .i64 k] rfl rfl ?c1 ?c2 ?c3 ?c4 ?c5 ?_))
                case c1 => exact cell_three_new _ _ _ _ _
                case c2 => intro u hu; simp at hu; rcases hu with rfl | rfl | rfl <;> rfl
                case c3 => unfold maxLen; have := HRX.out.len; omega
                case c4 => have := HRX.out.len; omega
                case c5 => have := HRX.out.bel.size; simp; omega
                intro v' w12 hown' hgrow _
                have E2 := Lib.hid (E1.out _ _ _ _ HRX.out hgrow hown')
                clear hown' hgrow
                go_wp2_with fail
                exact E2.out
            · have hi10 : ¬ ((s[k].toNat : Int) = 10) := u8_ne rfl h10
              rw [if_neg h10] at hst
              by_cases h59 : s[k] = 59
              · have hi59 : (s[k].toNat : Int) = 59 := by rw [h59]; rfl
                have hs1 : stepV (rs s k) (mayL ts) = .cut (.tok 5 1) := by rw [hst, hcons, cutV_cons, if_pos h59]
                have E1 := Lib.hid fun wx w' v' o => TOK.out 5 1 wx w' v' o hs1
                have HRX := HR
                clear hbl hbl' hcons hpre hst hp hp' HP0 hlh hs1 h10 h59
                go_wp2_with (first | (go_at_call 26; refine HP.out.mono ?_; rintro e w2 ⟨rfl, rfl⟩) | (at_builtin; refine wpList_append_own _ rfl _ _ 23 rfl w.heap.size 35 i0 (.agg #[.int .i64 0, .string ByteArray.empty, .int .i64 0]) 3 32 Tryz.underlying23 HIN.out.1 HIN.out.2.1 HIN.out.2.2.1 HIN.out.2.2.2 rfl (by decide) _ _ _ rfl (World.ownsRow.alloc HRX.out.own _) ⟨_, 0, none⟩ 1 1 [.int .i64 5, .string ((s.extract k s.size).extract 0 1), .int .i64 k] rfl rfl ?c1 ?c2 ?c3 ?c4 ?c5 ?_))
                case c1 => exact cell_three_new _ _ _ _ _
                case c2 => intro u hu; simp at hu; rcases hu with rfl | rfl | rfl <;> rfl
                case c3 => unfold maxLen; have := HRX.out.len; omega
                case c4 => have := HRX.out.len; omega
                case c5 => have := HRX.out.bel.size; simp; omega
                intro v' w12 hown' hgrow _
                have E2 := Lib.hid (E1.out _ _ _ _ HRX.out hgrow hown')
                clear hown' hgrow
                go_wp2_with fail
                exact E2.out
              · have hi59 : ¬ ((s[k].toNat : Int) = 59) := u8_ne rfl h59
                have hct : cutV (rs s k) = if isDg s[k] then numCut (rs s k) else if 0 < letV (rs s k) then wordCut (rs s k) else sigCut (rs s k) := by
                  rw [hcons, cutV_cons, if_neg h59]
                have HDG := Lib.hid (rIsDigit_any s[k] wr)
                by_cases hd : isDg s[k] = true
                · rw [hd] at HDG
                  rw [hct, if_pos hd] at hst
                  have hN := numCut_says (rs s k)
                  rw [rs_drop] at hN
                  have hhd : (rs s k).head? = some 48 ↔ s[k] = 48 := by rw [hcons]; simp
                  rw [hhd] at hN
                  have HDS0 := rDigits_any (s.extract k s.size) wr (by omega)
                  rw [hpre] at HDS0
                  have hn0 := digV_le (rs s k)
                  rw [rs_length] at hn0
                  have hn1 : 1 ≤ digV (rs s k) := by rw [hcons, digV_cons hd]; omega
                  generalize digV (rs s k) = n at *
                  have HDS := Lib.hid HDS0
                  have HLL0 := rLetters_any ((s.extract k s.size).extract n (s.extract k s.size).size) wr (by rw [ByteArray.size_extract]; omega) HTR.out
                  have hlx : ((s.extract k s.size).extract n (s.extract k s.size).size).data.toList = rs s (k + n) := by rw [rs_extract_all, rs, hpre, rs_drop]
                  rw [hlx, hrsz] at HLL0
                  generalize wordV (rs s (k + n)) = m at *
                  have HLL := Lib.hid HLL0
                  have hni : (0 : Int) ≤ (n : Int) ∧ (n : Int) ≤ ((s.extract k s.size).size : Int) := by omega
                  have hcmp : (maxT < (rs s k).take n) ↔ maxT < ((s.extract k s.size).extract 0 n).data.toList := by rw [cut_take]; rfl
                  rw [hcmp] at hN
                  obtain ⟨hN1, hN2, hN3⟩ := hN
                  have HN1 := Lib.hid fun h => HR.out.err hlt (by rw [hst, hN1 h])
                  have HN2 := Lib.hid fun h g => HR.out.err hlt (by rw [hst, hN2 h g])
                  have HN3 := Lib.hid fun wx w' v' o h g => TOK.out 3 n wx w' v' o (by rw [hst, hN3 h g])
                  clear hbl hbl' hcons hpre hst hp hp' HP0 hlh h10 h59 HDS0 HLL0 hlx hct hhd hcmp hN1 hN2 hN3
                  go_wp2_with (first | (go_at_call 26; refine HP.out.mono ?_; rintro e w2 ⟨rfl, rfl⟩) | (go_at_call 29; refine HDG.out.mono ?_; rintro e w3 ⟨rfl, rfl⟩))
                  refine HDS.out.mono ?_
                  rintro e w4 ⟨rfl, rfl⟩
                  by_cases hA : 1 < n ∧ s[k] = 48
                  · obtain ⟨hA1, hA2⟩ := hA
                    have hA1i : (1 : Int) < (n : Int) := by omega
                    have hA2i : (s[k].toNat : Int) = 48 := by rw [hA2]; rfl
                    have HEE := Lib.hid (HN1.out (Or.inl ⟨hA1, hA2⟩))
                    clear hA2
                    go_wp2_with fail
                    refine bodyPost_ret (v := .tuple #[.slice none 0 0, .agg #[.int .i64 3, .int .i64 k]]) (by simp [results, Tryz.results10, go_sem, f0, f1]) rfl ?_
                    exact HS.out _ _ (by rw [HEE.out]; rfl) ((Below.setCell (p := ⟨fb, 0, none⟩) (HBW.out) (by rw [HFB.out]; exact Nat.le_refl _) _).setCell (p := ⟨fb, 1, none⟩) (by rw [HFB.out]; exact Nat.le_refl _) _)
                  · have hor : (¬ ((1 : Int) < (n : Int))) ∨ ((1 : Int) < (n : Int) ∧ ¬ ((s[k].toNat : Int) = 48)) := by
                      by_cases h1 : 1 < n
                      · exact Or.inr ⟨by omega, u8_ne rfl (fun e => hA ⟨h1, e⟩)⟩
                      · exact Or.inl (by omega)
                    by_cases hB : 0 < m
                    · have hBi : (0 : Int) < (m : Int) := by omega
                      have HEE := Lib.hid (HN1.out (Or.inr hB))
                      clear hA
                      rcases hor with hor | ⟨hor, hor2⟩
                      all_goals
                        go_wp2_with (go_at_call 31; refine HLL.out.mono ?_; rintro e w5 ⟨rfl, hb5⟩; obtain ⟨⟨f0, f1, f2, f3⟩, -, -, hb05⟩ := HFC.out _ (HR.out.fresh hb5).bel; have HRX := Lib.hid (HR.out.fresh hb5))
                        refine bodyPost_ret (v := .tuple #[.slice none 0 0, .agg #[.int .i64 3, .int .i64 k]]) (by simp [results, Tryz.results10, go_sem, f0, f1]) rfl ?_
                        exact HS.out _ _ (by rw [HEE.out]; rfl) ((Below.setCell (p := ⟨fb, 0, none⟩) (hb05) (by rw [HFB.out]; exact Nat.le_refl _) _).setCell (p := ⟨fb, 1, none⟩) (by rw [HFB.out]; exact Nat.le_refl _) _)
                    · have hBi : ¬ ((0 : Int) < (m : Int)) := by omega
                      have HN2' := Lib.hid (HN2.out (fun h => h.elim hA hB))
                      have HN3' := Lib.hid fun wx w' v' o => HN3.out wx w' v' o (fun h => h.elim hA hB)
                      clear hA
                      have hgt := gt_says ((s.extract k s.size).extract 0 n)
                      have hn20 : (19 < n ∨ (n = 19 ∧ maxT < ((s.extract k s.size).extract 0 n).data.toList)) ∨ (¬ 19 < n ∧ n ≠ 19) ∨ (n = 19 ∧ ¬ maxT < ((s.extract k s.size).extract 0 n).data.toList) := by
                        by_cases h1 : 19 < n
                        · exact Or.inl (Or.inl h1)
                        · by_cases h2 : n = 19
                          · by_cases h3 : maxT < ((s.extract k s.size).extract 0 n).data.toList
                            · exact Or.inl (Or.inr ⟨h2, h3⟩)
                            · exact Or.inr (Or.inr ⟨h2, h3⟩)
                          · exact Or.inr (Or.inl ⟨h1, h2⟩)
                      rcases hn20 with hbig | ⟨h1, h2⟩ | ⟨h1, h2⟩
                      · have HEE := Lib.hid (HN2'.out hbig)
                        rcases hbig with hbig | ⟨hbig, hb2⟩
                        · have hbi : (19 : Int) < (n : Int) := by omega
                          clear hgt
                          have hor2 := hor.resolve_left (fun h => h (by omega))
                          clear hor
                          obtain ⟨hor, hor2⟩ := hor2
                          go_wp2_with (go_at_call 31; refine HLL.out.mono ?_; rintro e w5 ⟨rfl, hb5⟩; obtain ⟨⟨f0, f1, f2, f3⟩, -, -, hb05⟩ := HFC.out _ (HR.out.fresh hb5).bel; have HRX := Lib.hid (HR.out.fresh hb5))
                          refine bodyPost_ret (v := .tuple #[.slice none 0 0, .agg #[.int .i64 2, .int .i64 k]]) (by simp [results, Tryz.results10, go_sem, f0, f1]) rfl ?_
                          exact HS.out _ _ (by rw [HEE.out]; rfl) ((Below.setCell (p := ⟨fb, 0, none⟩) (hb05) (by rw [HFB.out]; exact Nat.le_refl _) _).setCell (p := ⟨fb, 1, none⟩) (by rw [HFB.out]; exact Nat.le_refl _) _)
                        · obtain ⟨g1, g2⟩ := hgt.1 hb2
                          subst hbig
                          clear hgt hb2
                          have hor2 := hor.resolve_left (fun h => h (by decide))
                          clear hor
                          obtain ⟨-, hor2⟩ := hor2
                          go_wp2_with (go_at_call 31; refine HLL.out.mono ?_; rintro e w5 ⟨rfl, hb5⟩; obtain ⟨⟨f0, f1, f2, f3⟩, -, -, hb05⟩ := HFC.out _ (HR.out.fresh hb5).bel; have HRX := Lib.hid (HR.out.fresh hb5))
                          refine bodyPost_ret (v := .tuple #[.slice none 0 0, .agg #[.int .i64 2, .int .i64 k]]) (by simp [results, Tryz.results10, go_sem, f0, f1]) rfl ?_
                          exact HS.out _ _ (by rw [HEE.out]; rfl) ((Below.setCell (p := ⟨fb, 0, none⟩) (hb05) (by rw [HFB.out]; exact Nat.le_refl _) _).setCell (p := ⟨fb, 1, none⟩) (by rw [HFB.out]; exact Nat.le_refl _) _)
                      · have E1 := Lib.hid fun wx w' v' o => HN3'.out wx w' v' o (fun h => h.elim h1 (fun h => h2 h.1))
                        have hbi : ¬ (19 : Int) < (n : Int) := by omega
                        have hbj : ¬ (n : Int) = 19 := by omega
                        clear hgt h1 h2
                        rcases hor with hor | ⟨hor, hor2⟩
                        all_goals
                          go_wp2_with (first | (go_at_call 31; refine HLL.out.mono ?_; rintro e w5 ⟨rfl, hb5⟩; obtain ⟨⟨f0, f1, f2, f3⟩, -, -, hb05⟩ := HFC.out _ (HR.out.fresh hb5).bel; have HRX := Lib.hid (HR.out.fresh hb5)) | (at_builtin; refine wpList_append_own _ rfl _ _ 23 rfl w.heap.size 35 i0 (.agg #[.int .i64 0, .string ByteArray.empty, .int .i64 0]) 3 32 Tryz.underlying23 HIN.out.1 HIN.out.2.1 HIN.out.2.2.1 HIN.out.2.2.2 rfl (by decide) _ _ _ rfl (World.ownsRow.alloc HRX.out.own _) ⟨_, 0, none⟩ 1 1 [.int .i64 3, .string ((s.extract k s.size).extract 0 n), .int .i64 k] rfl rfl ?c1 ?c2 ?c3 ?c4 ?c5 ?_))
                          case c1 => exact cell_three_new _ _ _ _ _
                          case c2 => intro u hu; simp at hu; rcases hu with rfl | rfl | rfl <;> rfl
                          case c3 => unfold maxLen; have := HRX.out.len; omega
                          case c4 => have := HRX.out.len; omega
                          case c5 => have := HRX.out.bel.size; simp; omega
                          intro v' w12 hown' hgrow _
                          have E2 := Lib.hid (E1.out _ _ _ _ HRX.out hgrow hown')
                          clear hown' hgrow
                          go_wp2_with fail
                          exact E2.out
                      · have E1 := Lib.hid fun wx w' v' o => HN3'.out wx w' v' o (fun h => h.elim (by omega) (fun h => h2 h.2))
                        have hg := hgt.2 h2
                        subst h1
                        clear hgt h2
                        have hor2 := hor.resolve_left (fun h => h (by decide))
                        clear hor
                        obtain ⟨-, hor2⟩ := hor2
                        rcases hg with hg | hg
                        all_goals
                          go_wp2_with (first | (go_at_call 31; refine HLL.out.mono ?_; rintro e w5 ⟨rfl, hb5⟩; obtain ⟨⟨f0, f1, f2, f3⟩, -, -, hb05⟩ := HFC.out _ (HR.out.fresh hb5).bel; have HRX := Lib.hid (HR.out.fresh hb5)) | (at_builtin; refine wpList_append_own _ rfl _ _ 23 rfl w.heap.size 35 i0 (.agg #[.int .i64 0, .string ByteArray.empty, .int .i64 0]) 3 32 Tryz.underlying23 HIN.out.1 HIN.out.2.1 HIN.out.2.2.1 HIN.out.2.2.2 rfl (by decide) _ _ _ rfl (World.ownsRow.alloc HRX.out.own _) ⟨_, 0, none⟩ 1 1 [.int .i64 3, .string ((s.extract k s.size).extract 0 19), .int .i64 k] rfl rfl ?c1 ?c2 ?c3 ?c4 ?c5 ?_))
                          case c1 => exact cell_three_new _ _ _ _ _
                          case c2 => intro u hu; simp at hu; rcases hu with rfl | rfl | rfl <;> rfl
                          case c3 => unfold maxLen; have := HRX.out.len; omega
                          case c4 => have := HRX.out.len; omega
                          case c5 => have := HRX.out.bel.size; simp; omega
                          intro v' w12 hown' hgrow _
                          have E2 := Lib.hid (E1.out _ _ _ _ HRX.out hgrow hown')
                          clear hown' hgrow
                          go_wp2_with fail
                          exact E2.out
                · have hd' : isDg s[k] = false := by simpa using hd
                  rw [hd'] at HDG
                  rw [hct, if_neg hd] at hst
                  have hwl : 0 < wordV (rs s k) ↔ 0 < letV (rs s k) := by
                    rw [wordV_pos_iff, alnV_nodig (fun b r e => by rw [hcons] at e; cases e; exact hd')]
                  have HLW : Hid (∀ W, Below wr.heap.size wr W → Calls Tryz.prog 31 #[.string (s.extract k s.size)] W fun e w' => e = .returned (.int .i64 (wordV (rs s k) : Nat)) ∧ Below W.heap.size W w') := Lib.hid fun W hW => by
                    have := rLetters_any (s.extract k s.size) W (by omega) (HTR.out.next hW)
                    rw [hpre] at this
                    exact this
                  have HENV : Hid (∀ W, Below wr.heap.size wr W → (W.cell? ⟨fb, 0, none⟩ = some (.int .i64 0) ∧ W.cell? ⟨fb, 1, none⟩ = some (.int .i64 0) ∧ W.frozen? ⟨fb, 0, none⟩ = false ∧ W.frozen? ⟨fb, 1, none⟩ = false) ∧ MaxL W ∧ Below w0.heap.size w0 W ∧ RL w W s u4 k ts) := Lib.hid fun W hW => by
                    obtain ⟨c, _, m, b⟩ := HFC.out W (HR.out.fresh hW).bel
                    exact ⟨c, m, b, HR.out.fresh hW⟩
                  have hn0 := wordV_le _ (rs s k) (Nat.le_refl _)
                  rw [rs_length] at hn0
                  by_cases hL : 0 < letV (rs s k)
                  · rw [if_pos hL] at hst
                    have hpos := hwl.2 hL
                    unfold wordCut at hst
                    generalize wordV (rs s k) = n at *
                    have HK : Hid (∀ W, MaxL W → Calls Tryz.prog 14 #[.string ((s.extract k s.size).extract 0 n)] W fun e w' => e = .returned (.bool (isKeyV ((rs s k).take n))) ∧ W = w') := Lib.hid fun W hW => by
                      have := rIsKey_any ((s.extract k s.size).extract 0 n) W (by rw [ByteArray.size_extract]; omega) hW
                      rw [cut_take] at this ⊢
                      exact this
                    have hni : (0 : Int) ≤ (n : Int) ∧ (n : Int) ≤ ((s.extract k s.size).size : Int) := by omega
                    have hpi : (0 : Int) < (n : Int) := by omega
                    have HST : Hid (stepV (rs s k) (mayL ts) = .cut (if isKeyV ((rs s k).take n) then .tok 2 n else if 12 < n then .err 4 else .tok 1 n)) := Lib.hid hst
                    clear hbl hbl' hcons hpre hst hp hp' HP0 hlh h10 h59 hct hd hd' hwl hL hpos
                    generalize isKeyV ((rs s k).take n) = b at *
                    go_wp2_with (first | (go_at_call 26; refine HP.out.mono ?_; rintro e w2 ⟨rfl, rfl⟩) | (go_at_call 29; refine HDG.out.mono ?_; rintro e w9 ⟨rfl, rfl⟩) | (go_at_call 31; refine (HLW.out _ (Below.refl _ _)).mono ?_; rintro e w3 ⟨rfl, hb3⟩))
                    refine (HLW.out w3 hb3).mono ?_
                    rintro e w4 ⟨rfl, hb4⟩
                    have hb34 := hb3.trans (hb4.mono hb3.size)
                    obtain ⟨⟨f0, f1, f2, f3⟩, hm4, hb04, hr4⟩ := HENV.out w4 hb34
                    have HRX := Lib.hid hr4
                    have HM4 := Lib.hid hm4
                    clear hr4 hm4 hb3 hb4 hb34
                    cases b with
                    | true =>
                      have E1 := Lib.hid fun wx w' v' o => TOK.out 2 n wx w' v' o HST.out
                      go_wp2_with (first | (go_at_call 14; refine (HK.out _ HM4.out).mono ?_; rintro e w5 ⟨rfl, rfl⟩) | (at_builtin; refine wpList_append_own _ rfl _ _ 23 rfl w.heap.size 35 i0 (.agg #[.int .i64 0, .string ByteArray.empty, .int .i64 0]) 3 32 Tryz.underlying23 HIN.out.1 HIN.out.2.1 HIN.out.2.2.1 HIN.out.2.2.2 rfl (by decide) _ _ _ rfl (World.ownsRow.alloc HRX.out.own _) ⟨_, 0, none⟩ 1 1 [.int .i64 2, .string ((s.extract k s.size).extract 0 n), .int .i64 k] rfl rfl ?c1 ?c2 ?c3 ?c4 ?c5 ?_))
                      case c1 => exact cell_three_new _ _ _ _ _
                      case c2 => intro u hu; simp at hu; rcases hu with rfl | rfl | rfl <;> rfl
                      case c3 => unfold maxLen; have := HRX.out.len; omega
                      case c4 => have := HRX.out.len; omega
                      case c5 => have := HRX.out.bel.size; simp; omega
                      intro v' w12 hown' hgrow _
                      have E2 := Lib.hid (E1.out _ _ _ _ HRX.out hgrow hown')
                      clear hown' hgrow
                      go_wp2_with fail
                      exact E2.out
                    | false =>
                      by_cases h12 : 12 < n
                      · have h12i : (12 : Int) < (n : Int) := by omega
                        have HEE := Lib.hid (HR.out.err hlt (e := 4) (by rw [HST.out, if_neg (by decide), if_pos h12]))
                        go_wp2_with (go_at_call 14; refine (HK.out _ HM4.out).mono ?_; rintro e w5 ⟨rfl, rfl⟩)
                        refine bodyPost_ret (v := .tuple #[.slice none 0 0, .agg #[.int .i64 4, .int .i64 k]]) (by simp [results, Tryz.results10, go_sem, f0, f1]) rfl ?_
                        exact HS.out _ _ (by rw [HEE.out]; rfl) ((Below.setCell (p := ⟨fb, 0, none⟩) (hb04) (by rw [HFB.out]; exact Nat.le_refl _) _).setCell (p := ⟨fb, 1, none⟩) (by rw [HFB.out]; exact Nat.le_refl _) _)
                      · have h12i : ¬ (12 : Int) < (n : Int) := by omega
                        have E1 := Lib.hid fun wx w' v' o => TOK.out 1 n wx w' v' o (by rw [HST.out, if_neg (by decide), if_neg h12])
                        go_wp2_with (first | (go_at_call 14; refine (HK.out _ HM4.out).mono ?_; rintro e w5 ⟨rfl, rfl⟩) | (at_builtin; refine wpList_append_own _ rfl _ _ 23 rfl w.heap.size 35 i0 (.agg #[.int .i64 0, .string ByteArray.empty, .int .i64 0]) 3 32 Tryz.underlying23 HIN.out.1 HIN.out.2.1 HIN.out.2.2.1 HIN.out.2.2.2 rfl (by decide) _ _ _ rfl (World.ownsRow.alloc HRX.out.own _) ⟨_, 0, none⟩ 1 1 [.int .i64 1, .string ((s.extract k s.size).extract 0 n), .int .i64 k] rfl rfl ?c1 ?c2 ?c3 ?c4 ?c5 ?_))
                        case c1 => exact cell_three_new _ _ _ _ _
                        case c2 => intro u hu; simp at hu; rcases hu with rfl | rfl | rfl <;> rfl
                        case c3 => unfold maxLen; have := HRX.out.len; omega
                        case c4 => have := HRX.out.len; omega
                        case c5 => have := HRX.out.bel.size; simp; omega
                        intro v' w12 hown' hgrow _
                        have E2 := Lib.hid (E1.out _ _ _ _ HRX.out hgrow hown')
                        clear hown' hgrow
                        go_wp2_with fail
                        exact E2.out
                  · rw [if_neg hL] at hst
                    have hw0 : wordV (rs s k) = 0 := by have := mt hwl.1 hL; omega
                    rw [hw0] at HLW
                    have hpl : (rs s k).length ≤ 4000 := by rw [rs_length]; omega
                    have hsig : ∀ j, j ≤ 28 → sgV (rs s k) j ≤ s.size - k := fun j _ => by rw [← rs_length]; exact sgV_le _ _
                    have HSIG := Lib.hid hsig
                    have HST : Hid (stepV (rs s k) (mayL ts) = .cut (if sgV (rs s k) 28 = 0 then .err 3 else .tok 4 (sgV (rs s k) 28))) := Lib.hid (by rw [hst, sigCut_sg])
                    have HHP : Hid (∀ (j : Nat) (x : ByteArray) W, signsX[j]? = some x → Calls Tryz.prog 26 #[.string (s.extract k s.size), .string x] W fun e w' => e = .returned (.bool (x.data.toList.isPrefixOf (rs s k))) ∧ w' = W) := Lib.hid fun j x W hx => by
                      have := Tryz.strings_HasPrefix (s.extract k s.size) x W
                      rw [hpre] at this
                      exact this
                    clear hbl hbl' hcons hpre hst hp hp' HP0 hlh h10 h59 hct hd hd' hwl hL hw0 hn0 hsig
                    go_wp2_with (first | (go_at_call 26; refine HP.out.mono ?_; rintro e w2 ⟨rfl, rfl⟩) | (go_at_call 29; refine HDG.out.mono ?_; rintro e w9 ⟨rfl, rfl⟩) | (go_at_call 31; refine (HLW.out _ (Below.refl _ _)).mono ?_; rintro e w3 ⟨rfl, hb3⟩))
                    obtain ⟨_, hm3, _, _⟩ := HENV.out w3 hb3
                    refine (rSignsOf_any w3 hm3).mono ?_
                    rintro e w4 ⟨rfl, rfl⟩
                    have hb4 : Below _ _ (w3.alloc (.cells (signsX.map Value.string).toArray 9)) := hb3.alloc hb3.size _
                    have hcells : ∀ (j : Nat) (x : ByteArray), signsX[j]? = some x → (w3.alloc (.cells (signsX.map Value.string).toArray 9)).cell? ⟨w3.heap.size, j, none⟩ = some (.string x) := fun j x hx => by
                      rw [World.cell?_alloc_at _ _ _ _ rfl]
                      simp [hx]
                    have HCL := Lib.hid hcells
                    obtain ⟨⟨f0, f1, f2, f3⟩, -, hb04, hr4⟩ := HENV.out _ hb4
                    have HRX := Lib.hid hr4
                    clear hcells hr4 hm3 hb4 hb3
                    generalize w3.alloc (.cells (signsX.map Value.string).toArray 9) = w4 at *
                    generalize w3.heap.size = sb at *
                    go_wp2_with fail
                    go_loopw [7, 8, 24] (fun nv kv iv wx => ∃ j : Nat, j ≤ 28 ∧ iv = .int .i64 j ∧ nv = .int .i64 (sgV (rs s k) j : Nat) ∧ kv = .int .i64 (if sgV (rs s k) j = 0 then 0 else 4) ∧ wx = w4) (fun _ _ iv _ => 28 - (intOf iv).toNat)
                    case atStart => exact ⟨0, by omega, rfl, rfl, rfl, rfl⟩
                    case round =>
                      obtain ⟨j, hj, rfl, rfl, rfl, rfl⟩ := hrel
                      by_cases hj2 : j < 28
                      · have hji : (j : Int) < 28 := by omega
                        obtain ⟨z, hz, hx⟩ := signsX_at j hj2
                        have hc := HCL.out j _ hx
                        have HPZ := Lib.hid (HHP.out j (mkT z) wr hx)
                        have hsc := sgV_succ (rs s k) j z hz
                        have hzp : 0 < z.length := sigs_pos z (List.mem_of_getElem? hz)
                        have hzz : (mkT z).data.toList.isPrefixOf (rs s k) = z.isPrefixOf (rs s k) := rfl
                        rw [hzz] at HPZ
                        generalize z.isPrefixOf (rs s k) = pz at *
                        by_cases h0 : sgV (rs s k) j = 0
                        · rw [if_pos h0] at hsc
                          rw [if_pos h0, h0]
                          have HSC := Lib.hid hsc
                          have hms := mkT_size z
                          have HMS := Lib.hid hms
                          have HZP := Lib.hid hzp
                          clear hsc h0 hz hx hzz hms hzp
                          generalize mkT z = Z at *
                          cases pz with
                          | true =>
                            go_wp2_with (go_at_call 26; refine HPZ.out.mono ?_; rintro e w5 ⟨rfl, rfl⟩)
                            go_roundw
                            case rel =>
                              have h1 := HSC.out
                              have h2 := HMS.out
                              have h3 := HZP.out
                              simp only [if_true] at h1
                              refine ⟨j + 1, by omega, by go_num, by rw [h1, h2], by rw [if_neg (by omega)], trivial⟩
                            case measure => simp [intOf]; omega
                          | false =>
                            go_wp2_with (go_at_call 26; refine HPZ.out.mono ?_; rintro e w5 ⟨rfl, rfl⟩)
                            go_roundw
                            case rel =>
                              have h1 := HSC.out
                              simp only [Bool.false_eq_true, if_false] at h1
                              refine ⟨j + 1, by omega, by go_num, by rw [h1]; rfl, by rw [if_pos h1], trivial⟩
                            case measure => simp [intOf]; omega
                        · rw [if_neg h0] at hsc
                          rw [if_neg h0]
                          have HSC := Lib.hid hsc
                          have H0 := Lib.hid h0
                          have h0i : ¬ ((sgV (rs s k) j : Int) = 0) := by omega
                          clear hsc h0 hz hx hzz hzp
                          generalize sgV (rs s k) j = m at *
                          go_wp2_with fail
                          go_roundw
                          case rel =>
                            have h1 := HSC.out
                            have h0 := H0.out
                            refine ⟨j + 1, by omega, by go_num, by rw [h1], by rw [h1, if_neg h0], trivial⟩
                          case measure => simp [intOf]; omega
                      · obtain rfl : j = 28 := by omega
                        have hn0 := HSIG.out 28 (by omega)
                        clear HSIG HHP HCL
                        by_cases h0 : sgV (rs s k) 28 = 0
                        · have HEE := Lib.hid (HR.out.err hlt (e := 3) (by rw [HST.out, if_pos h0]))
                          rw [if_pos h0, h0]
                          clear HST h0
                          go_wp2_with fail
                          refine bodyPost_ret (v := .tuple #[.slice none 0 0, .agg #[.int .i64 3, .int .i64 k]]) (by simp [results, Tryz.results10, go_sem, f0, f1]) rfl ?_
                          exact HS.out _ _ (by rw [HEE.out]; rfl) ((Below.setCell (p := ⟨fb, 0, none⟩) (hb04) (by rw [HFB.out]; exact Nat.le_refl _) _).setCell (p := ⟨fb, 1, none⟩) (by rw [HFB.out]; exact Nat.le_refl _) _)
                        · rw [if_neg h0]
                          have E1 := Lib.hid fun wx w' v' o => TOK.out 4 (sgV (rs s k) 28) wx w' v' o (by rw [HST.out, if_neg h0])
                          have h0i : ¬ ((sgV (rs s k) 28 : Int) = 0) := by omega
                          clear HST h0
                          generalize sgV (rs s k) 28 = n at *
                          have hni : (0 : Int) ≤ (n : Int) ∧ (n : Int) ≤ ((s.extract k s.size).size : Int) := by omega
                          go_wp2_with (at_builtin; refine wpList_append_own _ rfl _ _ 23 rfl w.heap.size 35 i0 (.agg #[.int .i64 0, .string ByteArray.empty, .int .i64 0]) 3 32 Tryz.underlying23 HIN.out.1 HIN.out.2.1 HIN.out.2.2.1 HIN.out.2.2.2 rfl (by decide) _ _ _ rfl (World.ownsRow.alloc HRX.out.own _) ⟨_, 0, none⟩ 1 1 [.int .i64 4, .string ((s.extract k s.size).extract 0 n), .int .i64 k] rfl rfl ?c1 ?c2 ?c3 ?c4 ?c5 ?_)
                          case c1 => exact cell_three_new _ _ _ _ _
                          case c2 => intro u hu; simp at hu; rcases hu with rfl | rfl | rfl <;> rfl
                          case c3 => unfold maxLen; have := HRX.out.len; omega
                          case c4 => have := HRX.out.len; omega
                          case c5 => have := HRX.out.bel.size; simp; omega
                          intro v' w12 hown' hgrow _
                          have E2 := Lib.hid (E1.out _ _ _ _ HRX.out hgrow hown')
                          clear hown' hgrow
                          go_wp2_with fail
                          exact E2.out
      · obtain rfl : k = s.size := by omega
        have hli : ¬ (s.size : Int) < (s.size : Int) := by omega
        have hx : lx (rs s 0) 0 false = (ts ++ endV s.size (mayL ts), none) := by rw [HR.out.lxe, rs_nil s s.size (Nat.le_refl _), lx_nil]
        have HMY := HR.out.may hs4 HMR.out
        have HENV : Hid (∀ W, Below w.heap.size w W → (W.cell? ⟨fb, 0, none⟩ = some (.int .i64 0) ∧ W.cell? ⟨fb, 1, none⟩ = some (.int .i64 0) ∧ W.frozen? ⟨fb, 0, none⟩ = false ∧ W.frozen? ⟨fb, 1, none⟩ = false) ∧ Below w0.heap.size w0 W) := Lib.hid fun W hW => by
          obtain ⟨c, _, _, b⟩ := HFC.out W hW
          exact ⟨c, b⟩
        cases hml : mayL ts with
        | false =>
          rw [hml] at HMY hx
          have HX := Lib.hid hx
          have HY := Lib.hid HMY
          clear hx HMY hml
          go_wp2_with (go_at_call 28; refine HY.out.mono ?_; rintro e w3 ⟨rfl, hb3⟩)
          refine (rGood_any w3).mono ?_
          rintro e w4 ⟨rfl, hb4⟩
          have hr4 := (HR.out.fresh hb3).fresh hb4
          obtain ⟨⟨f0, f1, f2, f3⟩, hb04⟩ := HENV.out w4 hr4.bel
          have HR4 := Lib.hid hr4
          clear hr4 hb3 hb4
          go_wp2_with fail
          refine bodyPost_ret (v := .tuple #[u4, .agg #[.int .i64 0, .int .i64 (-1)]]) (by simp [results, Tryz.results10, go_sem, f0, f1]) rfl ?_
          refine HS.out _ _ ?_ ((Below.setCell (p := ⟨fb, 0, none⟩) hb04 (by rw [HFB.out]; exact Nat.le_refl _) _).setCell (p := ⟨fb, 1, none⟩) (by rw [HFB.out]; exact Nat.le_refl _) _)
          rw [HX.out]
          refine ⟨u4, rfl, ?_⟩
          have ho := HR4.out.own
          rw [HWS.out] at ho
          have hkp : Keeps (fun b => b = fb) w4 ((w4.setCell ⟨fb, 0, none⟩ (.int .i64 0)).setCell ⟨fb, 1, none⟩ (.int .i64 (-1))) := ((Keeps.refl (fun b : Nat => b = fb) w4).setCell (S := fun b : Nat => b = fb) (p := ⟨fb, 0, none⟩) (Or.inl rfl) _).setCell (S := fun b : Nat => b = fb) (p := ⟨fb, 1, none⟩) (Or.inl rfl) _
          have := hkp.row ho (fun b hb e => by have := owns_geT ho b hb; omega)
          simpa [endV] using this
        | true =>
          rw [hml] at HMY hx
          have HX := Lib.hid hx
          have HY := Lib.hid HMY
          clear hx HMY hml
          go_wp2_with (first | (go_at_call 28; refine HY.out.mono ?_; rintro e w3 ⟨rfl, hb3⟩; have HRX := Lib.hid (HR.out.fresh hb3)) | (at_builtin; refine wpList_append_own _ rfl _ _ 23 rfl w.heap.size 35 i0 (.agg #[.int .i64 0, .string ByteArray.empty, .int .i64 0]) 3 32 Tryz.underlying23 HIN.out.1 HIN.out.2.1 HIN.out.2.2.1 HIN.out.2.2.2 rfl (by decide) _ _ _ rfl (World.ownsRow.alloc HRX.out.own _) ⟨_, 0, none⟩ 1 1 [.int .i64 5, .string ByteArray.empty, .int .i64 s.size] rfl rfl ?c1 ?c2 ?c3 ?c4 ?c5 ?_))
          case c1 => exact cell_three_new _ _ _ _ _
          case c2 => intro u hu; simp at hu; rcases hu with rfl | rfl | rfl <;> rfl
          case c3 => unfold maxLen; have := HRX.out.len; omega
          case c4 => have := HRX.out.len; omega
          case c5 => have := HRX.out.bel.size; simp; omega
          intro v' w12 hown' hgrow _
          have hb12 := HRX.out.grown hgrow
          have HOW := Lib.hid hown'
          have HB12 := Lib.hid hb12
          clear hgrow hown' hb12
          go_wp2_with fail
          refine (rGood_any w12).mono ?_
          rintro e w4 ⟨rfl, hb4⟩
          have hb124 := HB12.out.trans (hb4.mono HB12.out.size)
          obtain ⟨⟨f0, f1, f2, f3⟩, hb04⟩ := HENV.out w4 hb124
          have HB4 := Lib.hid hb4
          clear hb4 hb124
          go_wp2_with fail
          refine bodyPost_ret (v := .tuple #[v', .agg #[.int .i64 0, .int .i64 (-1)]]) (by simp [results, Tryz.results10, go_sem, f0, f1]) rfl ?_
          refine HS.out _ _ ?_ ((Below.setCell (p := ⟨fb, 0, none⟩) hb04 (by rw [HFB.out]; exact Nat.le_refl _) _).setCell (p := ⟨fb, 1, none⟩) (by rw [HFB.out]; exact Nat.le_refl _) _)
          rw [HX.out]
          refine ⟨v', rfl, ?_⟩
          have ho := (Keeps.of_new (S := fun _ => False) HB4.out).row HOW.out (fun _ _ h => h)
          rw [HWS.out] at ho
          have hkp : Keeps (fun b => b = fb) w4 ((w4.setCell ⟨fb, 0, none⟩ (.int .i64 0)).setCell ⟨fb, 1, none⟩ (.int .i64 (-1))) := ((Keeps.refl (fun b : Nat => b = fb) w4).setCell (S := fun b : Nat => b = fb) (p := ⟨fb, 0, none⟩) (Or.inl rfl) _).setCell (S := fun b : Nat => b = fb) (p := ⟨fb, 1, none⟩) (Or.inl rfl) _
          have ho2 := hkp.row ho (fun b hb e => by have := owns_geT ho b hb; omega)
          have e1 : (cellsT ts ++ [.int .i64 5, .string ByteArray.empty, .int .i64 (s.size : Int)]) = cellsT (ts ++ [⟨5, [], s.size⟩]) := cellsT_snoc ts 5 s.size []
          rw [e1] at ho2
          simpa [endV] using ho2
end Go.Proofs.YthkfdhglgonmnaaGreatDoor
