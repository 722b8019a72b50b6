/-
  The walk of the reference's Open.
-/
import Derived.Test.YtdjhbepocleehaaDoorWired
import Derived.Test.YtdjhbepocleehaaDoorRefFour
import Derived.Test.YtdjhbepocleehaaDoorRefVary3
namespace Go.Proofs.YtdjhbepocleehaaDoor
open Go.RowKit

theorem list_beq (a b : ByteArray) : (a.toList == b.toList) = decide (bs a = bs b) := by
  rw [Bool.eq_iff_iff, beq_iff_eq, decide_eq_true_eq, ByteArray.toList_eq, ByteArray.toList_eq]
  constructor
  · intro h
    rw [show a = b from ByteArray.ext (Array.toList_inj.1 h)]
  · intro h
    rw [bs_inj h]
theorem slw_beq (s : ByteArray) : ((s.extract 0 3).toList == [83, 76, 87]) = decide ([83, 76, 87] <+: bs s) := by
  rw [show ([83, 76, 87] : List UInt8) = ({ data := #[83, 76, 87] } : ByteArray).toList by rw [ByteArray.toList_eq], list_beq, Bool.eq_iff_iff, decide_eq_true_eq, decide_eq_true_eq, bs_extract, List.drop_zero, show bs { data := #[83, 76, 87] } = [83, 76, 87] from rfl, List.prefix_iff_eq_take]
  exact ⟨fun h => h.symm, fun h => h.symm⟩

theorem fits_beq (r : ByteArray) (x e : Nat) (f : Bool) (hf : f = true ↔ Fits r x e) : ((txt (four (Crc.more 0 (bs (r.extract x e))))).toList == (r.extract e (e + 4)).toList) = f := by
  rw [list_beq, bs_txt _ (four_bytes _), Bool.eq_iff_iff, decide_eq_true_eq, hf]
  unfold Fits
  exact ⟨fun h => h.symm, fun h => h.symm⟩
theorem last_pt {acc : List WPart} {last : Option Nat} {j : Nat} (h : LastIs acc last) (h0 : acc.length = j + 1) : last = some (pt acc j) := by
  rcases h with ⟨rfl, _⟩ | ⟨ini, p, rfl, rfl⟩
  · cases h0
  · have hj : ini.length = j := by simpa using h0
    unfold pt
    rw [List.getD_eq_getElem?_getD, ← hj, List.getElem?_append_right (Nat.le_refl _), Nat.sub_self]; rfl
theorem LastIs.none {acc : List WPart} {last : Option Nat} (h : LastIs acc last) (h0 : acc.length = 0) : last = Option.none := by
  rcases h with ⟨_, h⟩ | ⟨ini, p, rfl, _⟩
  · exact h
  · simp at h0

set_option maxRecDepth 100000 in
set_option maxHeartbeats 6400000 in
theorem refOpen_any (s : ByteArray) (k : Nat) (ps : List WPart) (re : Nat) (w : World) (hs : s.size ≤ 1000) (hO : OP s k ps re) :
    Calls Tryd.prog 27 #[.string s] w fun e w' => ∃ v, e = .returned (.tuple #[.int .u8 (k : Int), v, .int .i64 re]) ∧ PartsAt w' v ps ∧ Below w.heap.size w w' := by
  have hnone : ∀ W, PartsAt W (.slice none 0 0) [] := fun W => ⟨none, 0, 0, rfl, rfl, Nat.le_refl _, Nat.zero_le _, fun h => absurd h (Nat.lt_irrefl _), fun p hp => by cases hp⟩
  have HNO := Lib.hid hnone
  clear hnone
  have hsl := slw_beq s
  rcases hO with ⟨rfl, rfl, rfl, h⟩ | ⟨h8, hpre, h⟩
  · by_cases h8 : s.size < 8
    · have h8d : decide ((s.size : Int) < 8) = true := by rw [decide_eq_true_eq]; omega
      have h8i : (s.size : Int) < 8 := by omega
      clear h hsl
      go_enter Tryd.func27, Tryd.ntmps27
      go_wp2_with fail
      go_ret3
      exact ⟨_, rfl, HNO.out _, Below.refl _ _⟩
    · have h8d : decide ((s.size : Int) < 8) = false := by rw [decide_eq_false_iff_not]; omega
      have h8i : ¬ (s.size : Int) < 8 := by omega
      rw [decide_eq_false (h.resolve_left h8)] at hsl
      clear h
      go_enter Tryd.func27, Tryd.ntmps27
      go_wp2_with fail
      go_ret3
      exact ⟨_, rfl, HNO.out _, Below.refl _ _⟩
  · have h8d : decide ((s.size : Int) < 8) = false := by rw [decide_eq_false_iff_not]; omega
    have h8i : ¬ (s.size : Int) < 8 := by omega
    rw [decide_eq_true hpre] at hsl
    have he : ((s.size - 4 : Nat) : Int) = (s.size : Int) - 4 := by omega
    have hrs : (s.extract 0 (s.size - 4)).size = s.size - 4 := size_extract0 s (by omega)
    have hfd : ∀ f : Bool, (f = true ↔ Fits s 0 (s.size - 4)) → ((txt (four (Crc.more 0 (bs (s.extract 0 (s.size - 4)))))).toList == (s.extract (s.size - 4) s.size).toList) = f := fun f hf => by
      rw [list_beq, bs_txt _ (four_bytes _), Bool.eq_iff_iff, decide_eq_true_eq, hf]
      unfold Fits
      rw [show s.size - 4 + 4 = s.size by omega]
      exact ⟨fun h => h.symm, fun h => h.symm⟩
    have hcm := Crc.more_lt (bs (s.extract 0 (s.size - 4))) (bs_bytes _) 0 (by decide)
    have HSC : Hid (∀ W, Calls Tryd.prog 26 #[.string (s.extract 0 (s.size - 4))] W fun e w' => e = .returned (.int .u32 (Crc.more 0 (bs (s.extract 0 (s.size - 4))) : Nat)) ∧ Below W.heap.size W w') := Lib.hid fun W => refSum_any _ W (by omega)
    have HFC : Hid (∀ W, Calls Tryd.prog 35 #[.int .u32 (Crc.more 0 (bs (s.extract 0 (s.size - 4))) : Nat)] W fun e w' => e = .returned (.string (txt (four (Crc.more 0 (bs (s.extract 0 (s.size - 4))))))) ∧ Below W.heap.size W w') := Lib.hid fun W => refFour_any _ W hcm
    have HE := Lib.hid he
    have hx4 : (s.extract 0 (s.size - 4)).size ≤ 1000 := by omega
    generalize txt (four (Crc.more 0 (bs (s.extract 0 (s.size - 4))))) = F at *
    generalize Crc.more 0 (bs (s.extract 0 (s.size - 4))) = C at *
    have HFD := Lib.hid hfd
    have HPR := Lib.hid hpre
    have hi0 : (0 : Int) ≤ ((s.size - 4 : Nat) : Int) := by omega
    have hi1 : ((s.size - 4 : Nat) : Int) ≤ (s.size : Int) := by omega
    clear hfd hcm hpre
    rcases h with ⟨hf, rfl, rfl, rfl⟩ | ⟨hf, n, a, e0, hRN, hR⟩
    · have hcmp := HFD.out false ⟨fun h => Bool.noConfusion h, fun h => absurd h hf⟩
      clear hf he
      go_enter Tryd.func27, Tryd.ntmps27
      go_wp2_with fail
      go_region_with (first
        | (go_at_call 26
           refine (HSC.out _).mono ?_
           rintro e w6 ⟨rfl, hb6⟩
           have hb6r : Below w.heap.size w w6 := below_tr (by repeat (first | assumption | exact Below.refl _ _ | refine Below.drew ?_)) hb6)
        | (go_at_call 35
           refine (HFC.out _).mono ?_
           rintro e w7 ⟨rfl, hb7⟩
           have hb7r : Below w.heap.size w w7 := below_tr (by repeat (first | assumption | exact Below.refl _ _ | refine Below.drew ?_)) hb7))
      all_goals (
        go_wp2_with fail
        go_ret3
        exact ⟨_, rfl, HNO.out _, (by repeat (first | assumption | exact Below.refl _ _ | refine Below.drew ?_))⟩)
    · have hcmp := HFD.out true ⟨fun _ => hf, fun _ => rfl⟩
      have h3 : 3 < s.size := by omega
      have HG : Hid ((bs s).getD 3 0 = s[3].toNat) := Lib.hid (bs_getD s 3 h3)
      have hrl : 4 ≤ (s.extract 0 (s.size - 4)).size := by omega
      have HRN := Lib.hid hRN
      have HRR := Lib.hid hR
      clear hf he hRN hR
      go_enter Tryd.func27, Tryd.ntmps27
      go_wp2_with fail
      go_region_with (first
        | (go_at_call 26
           refine (HSC.out _).mono ?_
           rintro e w6 ⟨rfl, hb6⟩
           have hb6r : Below w.heap.size w w6 := below_tr (by repeat (first | assumption | exact Below.refl _ _ | refine Below.drew ?_)) hb6)
        | (go_at_call 35
           refine (HFC.out _).mono ?_
           rintro e w7 ⟨rfl, hb7⟩
           have hb7r : Below w.heap.size w w7 := below_tr (by repeat (first | assumption | exact Below.refl _ _ | refine Below.drew ?_)) hb7))
      generalize hre : s.extract 0 (s.size - 4) = r at *
      have HR0 := Lib.hid hre
      clear hre hcmp hi0 hi1 hsl
      go_wp2_with fail
      refine (refReadNum_any r 4 n a e0 _ (by omega) hrl HRN.out).mono ?_
      rintro e w8 ⟨rfl, hb8⟩
      have hb08 : Below w.heap.size w w8 := below_tr (by repeat (first | assumption | exact Below.refl _ _ | refine Below.drew ?_)) hb8
      rcases HRR.out with ⟨rfl, rfl, rfl, rfl, rfl, rfl⟩ | ⟨rfl, h40, rfl, rfl, rfl⟩ | ⟨rfl, h40, hPS, hkk⟩
      · go_wp2_with fail
        go_ret3
        exact ⟨_, rfl, HNO.out _, hb08⟩
      · have h40i : (40 : Int) < (n : Int) := by omega
        go_wp2_with fail
        go_ret3
        exact ⟨_, rfl, HNO.out _, hb08⟩
      · have h40i : ¬ (40 : Int) < (n : Int) := by omega
        have HPS := Lib.hid hPS
        have HPB : Hid (re ≠ 0 → ps = []) := Lib.hid fun h => hPS.bad h
        have HKK := Lib.hid hkk
        have hkz : re ≠ 0 → k = 0 := fun h => by rw [hkk, if_neg h]
        have HKZ := Lib.hid hkz
        have HA : Hid (a ≤ r.size) := Lib.hid (by
          rcases HRN.out with ⟨h, ha, _⟩ | ⟨_, _, h, _⟩
          · have := h.len; rw [List.length_drop, bs_length] at this; omega
          · omega)
        obtain ⟨i0, hi, hz0, hz1, hz2⟩ := info_parts3 info_part
        clear hPS hkk hkz hrs HRR HSC HFC HFD
        go_wp2_with fail
        go_loopw [7, 9] (fun av v wr => ∃ (k1 x : Nat) (last : Option Nat) (acc ps' : List WPart), k1 ≤ n ∧ x ≤ r.size ∧ av = .int .i64 x ∧ wr.ownsRow w.heap.size 65 2 v k1 (cellsP acc) ∧ (∀ p ∈ acc, p.1 < 256) ∧ LastIs acc last ∧
          PS r (n - k1) x last ps' re ∧ (re = 0 → ps = acc ++ ps') ∧ Below w.heap.size w wr) (fun av _ _ => r.size - (intOf av).toNat)
        case atStart => exact ⟨0, a, none, [], ps, Nat.zero_le _, HA.out, rfl, World.ownsRow_nil _ _ _ _, (fun p hp => by cases hp), Or.inl ⟨rfl, rfl⟩, HPS.out, fun _ => rfl, hb08⟩
        case round =>
          obtain ⟨k1, x, last, acc, ps', hk1, hx, rfl, hown, htags, hlast, hps, hok, hb⟩ := hrel
          have HT := Lib.hid htags
          have HLA := Lib.hid hlast
          have HOK := Lib.hid hok
          have HOW := Lib.hid hown
          have HGE := Lib.hid (owns_ge hown)
          obtain ⟨hpa, hka⟩ := partsAt_owns hown htags
          obtain ⟨ao, n2, cap, rfl, hn2, hn2c, hcm, hcells, -⟩ := hpa
          obtain rfl : n2 = k1 := by omega
          have HCL := Lib.hid hcells
          have HKA := Lib.hid hka
          unfold maxLen at hcm
          clear htags hlast hok hown hcells hka hn2
          by_cases hkn : n2 < n
          · obtain ⟨m, hm⟩ : ∃ m, n - n2 = m + 1 := ⟨n - n2 - 1, by omega⟩
            rw [hm] at hps
            obtain ⟨t, b, nx, e1, hrp, hps⟩ := hps
            by_cases hxr : x < r.size
            · rcases hrp with ⟨e, _, h2, h4, hfit, htag, hnx, he1⟩ | ⟨ht0, hb0, hnx0, hc⟩
              · subst he1
                subst hnx
                have ht256 : t < 256 := by rw [htag, bs_getD r x hxr]; exact r[x].toNat_lt
                have hta : r[x].toNat = t := by rw [htag, bs_getD r x hxr]
                have hbsz : b.size ≤ r.size := (h2.le (by omega)).2.2
                have hle := h2.le (by omega)
                have hng : ¬ (r.size : Int) < (e : Int) + 4 := by omega
                have hxs : (r.extract x e).size ≤ 1000 := by rw [ByteArray.size_extract]; omega
                have hcmp := fits_beq r x e true ⟨fun _ => hfit, fun _ => rfl⟩
                have hcm := Crc.more_lt (bs (r.extract x e)) (bs_bytes _) 0 (by decide)
                have HSC2 : Hid (∀ W, Calls Tryd.prog 26 #[.string (r.extract x e)] W fun z w' => z = .returned (.int .u32 (Crc.more 0 (bs (r.extract x e)) : Nat)) ∧ Below W.heap.size W w') := Lib.hid fun W => refSum_any _ W hxs
                have HFC2 : Hid (∀ W, Calls Tryd.prog 35 #[.int .u32 (Crc.more 0 (bs (r.extract x e)) : Nat)] W fun z w' => z = .returned (.string (txt (four (Crc.more 0 (bs (r.extract x e)))))) ∧ Below W.heap.size W w') := Lib.hid fun W => refFour_any _ W hcm
                generalize txt (four (Crc.more 0 (bs (r.extract x e)))) = F2 at *
                generalize Crc.more 0 (bs (r.extract x e)) = C2 at *
                have hi1 : (0 : Int) ≤ (x : Int) := by omega
                have hi2 : (x : Int) ≤ (e : Int) := by omega
                have hi3 : (e : Int) ≤ (r.size : Int) := by omega
                have hi4 : (e : Int) + 4 ≤ (r.size : Int) := by omega
                have hi5 : (0 : Int) ≤ (e : Int) + 4 := by omega
                have hi6 : (e : Int) ≤ (e : Int) + 4 := by omega
                have hw1 : IntKind.i64.wrap ((e : Int) + 4) = (e : Int) + 4 := IntWalk.i64_in _ (by omega)
                have hw2 : ((e : Int) + 4).toNat = e + 4 := by omega
                have HRT := Lib.hid h2
                clear h2 hcm
                clear hfit htag
                have hb6 : ¬ (60000 : Int) < (b.size : Int) := by omega
                have hxi : (x : Int) < (r.size : Int) := by omega
                go_wp2_with fail
                refine (refReadText_any r b (x + 1) e 0 _ (by omega) (by omega) HRT.out).mono ?_
                rintro e9 w9 ⟨rfl, hb9⟩
                have hb09 : Below w.heap.size w w9 := below_tr hb hb9
                have HOW9 := Lib.hid (owns_below HOW.out hb9)
                go_wp2_with fail
                go_region_with (first
                  | (go_at_call 26
                     refine (HSC2.out _).mono ?_
                     rintro e10 w10 ⟨rfl, hb10⟩
                     have hb10k : Below w9.heap.size w9 w10 := below_tr (by repeat (first | assumption | exact Below.refl _ _ | refine Below.drew ?_)) hb10
                     have hb10r : Below w.heap.size w w10 := below_tr (by repeat (first | assumption | exact Below.refl _ _ | refine Below.drew ?_)) hb10)
                  | (go_at_call 35
                     refine (HFC2.out _).mono ?_
                     rintro e11 w11 ⟨rfl, hb11⟩
                     have hb11k : Below w9.heap.size w9 w11 := below_tr (by repeat (first | assumption | exact Below.refl _ _ | refine Below.drew ?_)) hb11
                     have hb11r : Below w.heap.size w w11 := below_tr (by repeat (first | assumption | exact Below.refl _ _ | refine Below.drew ?_)) hb11))
                have HK11 := Lib.hid hb11k
                have HR11 := Lib.hid (below_tr hb9 hb11k)
                have HB11 := Lib.hid hb11r
                have hws : w.heap.size ≤ w11.heap.size := hb11r.size
                have hxx : (0 : Int) ≤ (x : Int) ∧ (x : Int) < (r.size : Int) := by omega
                have HTG : Hid (∀ p ∈ acc ++ [(t, b)], p.1 < 256) := Lib.hid fun p hp => by
                  rcases List.mem_append.1 hp with hp | hp
                  · exact HT.out p hp
                  · rw [List.mem_singleton.1 hp]; exact ht256
                clear hb9 hb10 hb10r hb10k hb11 hb11k hb11r hb09 hcmp hw1 hw2 hi1 hi2 hi4 hi5 hi6 hxs
                rcases hps with ⟨h, _⟩ | ⟨_, hna, hpe, hre⟩ | ⟨_, hab, ps'', hps2, hpe⟩
                · exact absurd rfl h
                · subst hre
                  have HPE := Lib.hid (HPB.out (by decide))
                  have HKE := Lib.hid (HKZ.out (by decide))
                  by_cases hn0 : n2 = 0
                  · exact absurd (by rw [HLA.out.none (by rw [← HKA.out]; exact hn0)]; intro y hy; cases hy) hna
                  · obtain ⟨j, rfl⟩ : ∃ j, n2 = j + 1 := ⟨n2 - 1, by omega⟩
                    have hl := last_pt HLA.out HKA.out.symm
                    have hy : ¬ pt acc j < t := fun h => hna (by rw [hl]; intro y hy; cases hy; exact h)
                    obtain ⟨cb, co, rfl, hcb, hcc⟩ := HCL.out (by omega)
                    have hcj := (hcc j (by omega)).1
                    rw [← HR11.out.cell (p := ⟨cb, co + j * 2, none⟩) hcb] at hcj
                    clear hcc hna hl
                    generalize pt acc j = y at *
                    have hg : decide ((0 : Int) < (j : Int) + 1) = true := by rw [decide_eq_true_eq]; omega
                    have hj4 : (0 : Int) ≤ (j : Int) ∧ (j : Int) < (j : Int) + 1 := by omega
                    have hw : IntKind.i64.wrap (j : Int) = (j : Int) := IntWalk.i64_in _ (by omega)
                    have hdec : decide (t ≤ y) = true := by rw [decide_eq_true_eq]; omega
                    go_wp2_with fail
                    go_quiet (fail)
                    go_wp2_with fail
                    go_ret3
                    exact ⟨_, by rw [HKE.out]; rfl, by rw [HPE.out]; exact HNO.out _, below_drewN HB11.out _⟩
                · have HPS2 : Hid (PS r (n - (n2 + 1)) (e + 4) (some t) ps'' re) := Lib.hid (by rw [show n - (n2 + 1) = m by omega]; exact hps2)
                  have HPE : Hid (re = 0 → ps = (acc ++ [(t, b)]) ++ ps'') := Lib.hid fun h => by rw [HOK.out h, hpe, if_pos h]; simp
                  clear hps2 hpe
                  by_cases hn0 : n2 = 0
                  · subst hn0
                    have hg : decide ((0 : Int) < 0) = false := by decide
                    clear hab
                    go_wp2_with fail
                    go_quiet (fail)
                    have HX := Lib.hid (owns_below HOW9.out (below_drewN HK11.out nq))
                    have HBX := Lib.hid (below_drewN HB11.out nq)
                    go_wp2_with (at_builtin; refine wpList_append_own _ rfl _ _ 45 rfl w.heap.size 65 i0 (.agg #[.int .u8 0, .string ByteArray.empty]) 2 24 Tryd.underlying45 hi hz0 hz1 hz2 rfl (by decide) _ _ _ rfl (HX.out.alloc _) ⟨_, 0, none⟩ 1 1 [.int .u8 (t : Int), .string b] rfl rfl ?c1 ?c2 ?c3 ?c4 ?c5 ?_)
                    case c1 => exact cell_two_new _ _ _ _
                    case c2 => intro u hu; simp at hu; rcases hu with rfl | rfl <;> rfl
                    case c3 => unfold maxLen; omega
                    case c4 => omega
                    case c5 => have := HBX.out.size; simp at this ⊢; omega
                    intro v' w12 hown' hgrow _
                    have hb12 : Below w.heap.size w w12 := (HBX.out.alloc HBX.out.size _).grown hgrow (by have := HBX.out.size; simp at this ⊢; omega) HGE.out
                    rw [cellsP_snoc] at hown'
                    have HO := Lib.hid hown'
                    clear hown' hgrow
                    go_wp2_with fail
                    go_roundw
                    case rel => exact ⟨0 + 1, e + 4, some t, acc ++ [(t, b)], ps'', by omega, by omega, by go_num, HO.out, HTG.out, LastIs.snoc _ _ _, HPS2.out, HPE.out, hb12⟩
                    case measure => simp [intOf]; omega
                  · obtain ⟨j, rfl⟩ : ∃ j, n2 = j + 1 := ⟨n2 - 1, by omega⟩
                    have hl := last_pt HLA.out HKA.out.symm
                    have hy : pt acc j < t := by rw [hl] at hab; exact hab _ rfl
                    obtain ⟨cb, co, rfl, hcb, hcc⟩ := HCL.out (by omega)
                    have hcj := (hcc j (by omega)).1
                    rw [← HR11.out.cell (p := ⟨cb, co + j * 2, none⟩) hcb] at hcj
                    clear hcc hab hl
                    generalize pt acc j = y at *
                    have hg : decide ((0 : Int) < (j : Int) + 1) = true := by rw [decide_eq_true_eq]; omega
                    have hj4 : (0 : Int) ≤ (j : Int) ∧ (j : Int) < (j : Int) + 1 := by omega
                    have hw : IntKind.i64.wrap (j : Int) = (j : Int) := IntWalk.i64_in _ (by omega)
                    have hdec : decide (t ≤ y) = false := by rw [decide_eq_false_iff_not]; omega
                    go_wp2_with fail
                    go_quiet (fail)
                    have HX := Lib.hid (owns_below HOW9.out (below_drewN HK11.out nq))
                    have HBX := Lib.hid (below_drewN HB11.out nq)
                    go_wp2_with (at_builtin; refine wpList_append_own _ rfl _ _ 45 rfl w.heap.size 65 i0 (.agg #[.int .u8 0, .string ByteArray.empty]) 2 24 Tryd.underlying45 hi hz0 hz1 hz2 rfl (by decide) _ _ _ rfl (HX.out.alloc _) ⟨_, 0, none⟩ 1 1 [.int .u8 (t : Int), .string b] rfl rfl ?c1 ?c2 ?c3 ?c4 ?c5 ?_)
                    case c1 => exact cell_two_new _ _ _ _
                    case c2 => intro u hu; simp at hu; rcases hu with rfl | rfl <;> rfl
                    case c3 => unfold maxLen; omega
                    case c4 => omega
                    case c5 => have := HBX.out.size; simp at this ⊢; omega
                    intro v' w12 hown' hgrow _
                    have hb12 : Below w.heap.size w w12 := (HBX.out.alloc HBX.out.size _).grown hgrow (by have := HBX.out.size; simp at this ⊢; omega) HGE.out
                    rw [cellsP_snoc] at hown'
                    have HO := Lib.hid hown'
                    clear hown' hgrow
                    go_wp2_with fail
                    go_roundw
                    case rel => exact ⟨j + 1 + 1, e + 4, some t, acc ++ [(t, b)], ps'', by omega, by omega, by go_num, HO.out, HTG.out, LastIs.snoc _ _ _, HPS2.out, HPE.out, hb12⟩
                    case measure => simp [intOf]; omega
              · rcases hps with ⟨_, hpe, hre⟩ | ⟨h, _⟩ | ⟨h, _⟩
                · rcases hc with ⟨h, _⟩ | ⟨_, h2, h3e⟩ | ⟨e, b', _, h2, h4, h3e⟩ | ⟨e, b', _, h2, h4, hfit, h3e⟩
                  · omega
                  · have HRT := Lib.hid h2
                    rw [h3e] at hre
                    subst hre
                    have HPE := Lib.hid (HPB.out (by decide))
                    have HKE := Lib.hid (HKZ.out (by decide))
                    clear h2
                    go_wp2_with fail
                    refine (refReadText_any r _ (x + 1) 0 3 _ (by omega) (by omega) HRT.out).mono ?_
                    rintro e w9 ⟨rfl, hb9⟩
                    go_wp2_with fail
                    go_ret3
                    exact ⟨_, by rw [HKE.out]; rfl, by rw [HPE.out]; exact HNO.out _, hb.trans (hb9.mono hb.size)⟩
                  · have HRT := Lib.hid h2
                    rw [h3e] at hre
                    subst hre
                    have hle := h2.le (by omega)
                    have hgt : (r.size : Int) < (e : Int) + 4 := by omega
                    have HPE := Lib.hid (HPB.out (by decide))
                    have HKE := Lib.hid (HKZ.out (by decide))
                    clear h2
                    go_wp2_with fail
                    refine (refReadText_any r b' (x + 1) e 0 _ (by omega) (by omega) HRT.out).mono ?_
                    rintro e9 w9 ⟨rfl, hb9⟩
                    go_wp2_with fail
                    go_ret3
                    exact ⟨_, by rw [HKE.out]; rfl, by rw [HPE.out]; exact HNO.out _, hb.trans (hb9.mono hb.size)⟩
                  · rw [h3e] at hre
                    subst hre
                    have HPE := Lib.hid (HPB.out (by decide))
                    have HKE := Lib.hid (HKZ.out (by decide))
                    have hle := h2.le (by omega)
                    have hng : ¬ (r.size : Int) < (e : Int) + 4 := by omega
                    have hxs : (r.extract x e).size ≤ 1000 := by rw [ByteArray.size_extract]; omega
                    have hcmp := fits_beq r x e false ⟨fun h => Bool.noConfusion h, fun h => absurd h hfit⟩
                    have hcm := Crc.more_lt (bs (r.extract x e)) (bs_bytes _) 0 (by decide)
                    have HSC2 : Hid (∀ W, Calls Tryd.prog 26 #[.string (r.extract x e)] W fun z w' => z = .returned (.int .u32 (Crc.more 0 (bs (r.extract x e)) : Nat)) ∧ Below W.heap.size W w') := Lib.hid fun W => refSum_any _ W hxs
                    have HFC2 : Hid (∀ W, Calls Tryd.prog 35 #[.int .u32 (Crc.more 0 (bs (r.extract x e)) : Nat)] W fun z w' => z = .returned (.string (txt (four (Crc.more 0 (bs (r.extract x e)))))) ∧ Below W.heap.size W w') := Lib.hid fun W => refFour_any _ W hcm
                    generalize txt (four (Crc.more 0 (bs (r.extract x e)))) = F2 at *
                    generalize Crc.more 0 (bs (r.extract x e)) = C2 at *
                    have hi1 : (0 : Int) ≤ (x : Int) := by omega
                    have hi2 : (x : Int) ≤ (e : Int) := by omega
                    have hi3 : (e : Int) ≤ (r.size : Int) := by omega
                    have hi4 : (e : Int) + 4 ≤ (r.size : Int) := by omega
                    have hi5 : (0 : Int) ≤ (e : Int) + 4 := by omega
                    have hi6 : (e : Int) ≤ (e : Int) + 4 := by omega
                    have hw1 : IntKind.i64.wrap ((e : Int) + 4) = (e : Int) + 4 := IntWalk.i64_in _ (by omega)
                    have hw2 : ((e : Int) + 4).toNat = e + 4 := by omega
                    have HRT := Lib.hid h2
                    clear h2 hcm
                    clear hfit
                    go_wp2_with fail
                    refine (refReadText_any r b' (x + 1) e 0 _ (by omega) (by omega) HRT.out).mono ?_
                    rintro e9 w9 ⟨rfl, hb9⟩
                    have hb09 : Below w.heap.size w w9 := below_tr hb hb9
                    go_wp2_with fail
                    go_region_with (first
                  | (go_at_call 26
                     refine (HSC2.out _).mono ?_
                     rintro e10 w10 ⟨rfl, hb10⟩
                     have hb10k : Below w9.heap.size w9 w10 := below_tr (by repeat (first | assumption | exact Below.refl _ _ | refine Below.drew ?_)) hb10
                     have hb10r : Below w.heap.size w w10 := below_tr (by repeat (first | assumption | exact Below.refl _ _ | refine Below.drew ?_)) hb10)
                  | (go_at_call 35
                     refine (HFC2.out _).mono ?_
                     rintro e11 w11 ⟨rfl, hb11⟩
                     have hb11k : Below w9.heap.size w9 w11 := below_tr (by repeat (first | assumption | exact Below.refl _ _ | refine Below.drew ?_)) hb11
                     have hb11r : Below w.heap.size w w11 := below_tr (by repeat (first | assumption | exact Below.refl _ _ | refine Below.drew ?_)) hb11))
                    all_goals (
                      go_wp2_with fail
                      go_ret3
                      exact ⟨_, by rw [HKE.out]; rfl, by rw [HPE.out]; exact HNO.out _, (by repeat (first | assumption | exact Below.refl _ _ | refine Below.drew ?_))⟩)
                · rcases hc with ⟨_, hc⟩ | ⟨_, _, hc⟩ | ⟨_, _, _, _, _, hc⟩ | ⟨_, _, _, _, _, _, hc⟩ <;> omega
                · rcases hc with ⟨_, hc⟩ | ⟨_, _, hc⟩ | ⟨_, _, _, _, _, hc⟩ | ⟨_, _, _, _, _, _, hc⟩ <;> omega
            · have hre3 : re = 3 := by
                have he : e1 = 3 := by
                  rcases hrp with ⟨_, h, _⟩ | ⟨_, _, _, ⟨_, h⟩ | ⟨h, _⟩ | ⟨_, _, h, _⟩ | ⟨_, _, h, _⟩⟩
                  · omega
                  · exact h
                  · omega
                  · omega
                  · omega
                rcases hps with ⟨_, _, h⟩ | ⟨h, _⟩ | ⟨h, _⟩ <;> omega
              subst hre3
              have HPE := Lib.hid (HPB.out (by decide))
              have HKE := Lib.hid (HKZ.out (by decide))
              clear hps hrp
              go_wp2_with fail
              go_ret3
              exact ⟨_, by rw [HKE.out]; rfl, by rw [HPE.out]; exact HNO.out _, hb⟩
          · obtain rfl : n2 = n := by omega
            rw [Nat.sub_self] at hps
            obtain ⟨rfl, hps⟩ := hps
            rcases hps with ⟨rfl, rfl⟩ | ⟨hne, rfl⟩
            · have HPE : Hid (ps = acc) := Lib.hid (by have := HOK.out rfl; simpa using this)
              have HPA := Lib.hid (partsAt_owns HOW.out HT.out).1
              have HKV : Hid (k = s[3].toNat) := Lib.hid (by rw [HKK.out, if_pos rfl, HG.out])
              go_wp2_with fail
              go_ret3
              exact ⟨_, by rw [HKV.out]; rfl, by rw [HPE.out]; exact HPA.out, hb⟩
            · have HPE := Lib.hid (HPB.out (by decide))
              have HKE := Lib.hid (HKZ.out (by decide))
              have hlt : (x : Int) < (r.size : Int) := by omega
              go_wp2_with fail
              go_ret3
              exact ⟨_, by rw [HKE.out]; rfl, by rw [HPE.out]; exact HNO.out _, hb⟩
end Go.Proofs.YtdjhbepocleehaaDoor
