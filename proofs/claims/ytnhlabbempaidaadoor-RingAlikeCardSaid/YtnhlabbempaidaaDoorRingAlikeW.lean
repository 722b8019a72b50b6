/-
  The walk of the law RingAlike: a ring of numbers and a ring of texts do alike.
-/
import Derived.Test.YtnhlabbempaidaaDoorAlike
import Derived.Test.YtnhlabbempaidaaDoorArgs
import Derived.Deep.RegionHeld3
import Derived.OpenShut
import Derived.Deep.DeepCutAuto
import Derived.Deep.CutRange
namespace Go.Proofs.YtnhlabbempaidaaDoor
open Go.RowKit Go.ChangeShapes Go.WideShapes Go.ChangeAt

theorem i64_wf {x : Int} (h : (Lit.int .i64 x).wf = true) : -9223372036854775808 ≤ x ∧ x ≤ 9223372036854775807 :=
  bounds_i64 h
/-- The ring of texts holds the texts of what the ring of numbers holds. -/
structure Al (w0 w : World) (ra sa rb sb n : Nat) (U : List Int) : Prop where
  h : Alike w0 w ra sa rb sb n U (U.map sOf)
  b : ∀ x ∈ U, -9223372036854775808 ≤ x ∧ x ≤ 9223372036854775807

set_option maxRecDepth 100000 in
set_option maxHeartbeats 3200000 in
theorem ringAlike_any (size : Int) (v : Value) (l : List Int) (u : Value) (ol : List Bool) (w : World) (_h1 : -9223372036854775808 ≤ size) (_h2 : size ≤ 9223372036854775807) (hv : NumsAt .i64 w v l) (hu : BoolsAt w u ol) (hE : ErrT w ∧ Pow w) :
    Calls Tryd.prog 6 #[.int .i64 size, v, u] w fun e w' => e = .returned (.bool true) ∧ Below w.heap.size w w' := by
  have HE := Lib.hid hE.1
  have HP := Lib.hid hE.2
  obtain ⟨ao, m, cap, rfl, hm, hmc, hcm, hx, hwf⟩ := hv
  obtain ⟨aq, mo, cap2, rfl, hmo, hmoc, hcmo, hxo⟩ := hu
  unfold maxLen at hcm hcmo
  clear hE
  by_cases hbig : 100 < m ∨ 100 < mo
  · by_cases hb1 : 100 < m
    · have h1i : (100 : Int) < (m : Int) := by omega
      go_enter Tryd.func6, Tryd.ntmps6
      go_wp2_with fail
      refine (ringed_any _ HE.out).mono ?_
      rintro e w1 ⟨rfl, hb1⟩
      go_wp2_with fail
      go_ret
      exact ⟨rfl, hb1⟩
    · have h1i : ¬ (100 : Int) < (m : Int) := by omega
      have h2i : (100 : Int) < (mo : Int) := by omega
      go_enter Tryd.func6, Tryd.ntmps6
      go_wp2_with fail
      refine (ringed_any _ HE.out).mono ?_
      rintro e w1 ⟨rfl, hb1⟩
      go_wp2_with fail
      go_ret
      exact ⟨rfl, hb1⟩
  · have h1i : ¬ (100 : Int) < (m : Int) := by omega
    have h2i : ¬ (100 : Int) < (mo : Int) := by omega
    have HX := Lib.hid hx
    have HXO := Lib.hid hxo
    have HM := Lib.hid hm
    have HMO := Lib.hid hmo
    have HWF := Lib.hid hwf
    clear hx hxo hm hmo hbig hwf
    go_enter Tryd.func6, Tryd.ntmps6
    go_wp2_with fail
    refine (ringed_any _ HE.out).mono ?_
    rintro e w1 ⟨rfl, hb1⟩
    have HB1 := Lib.hid hb1
    clear hb1
    go_wp2_with fail
    refine (pick_any size 65 _ (by decide) (by decide)).mono ?_
    rintro e w1' ⟨n, hn, rfl, rfl⟩
    go_wp2_with fail
    refine (newI_ok w1 n (by omega)).mono ?_
    rintro e w2 ⟨rfl, hr2, hb2, hs2⟩
    have HR2 := Lib.hid hr2
    have HB2 := Lib.hid hb2
    have HS2 := Lib.hid hs2
    clear hr2 hb2 hs2
    go_wp2_with fail
    refine (newS_ok w2 n (by omega)).mono ?_
    rintro e w3 ⟨rfl, hr3, hb3, hs3⟩
    have HA3 : Hid (Al w w3 (w1.heap.size + 1) w1.heap.size (w2.heap.size + 1) w2.heap.size n []) := Lib.hid (by
      have h1 := HB1.out.size
      have h2 := HS2.out
      have hg := HP.out.at
      have hk2 : Keeps (fun _ => False) w w2 := Keeps.of_new (HB1.out.trans (HB2.out.mono h1))
      have hk3 : Keeps (fun _ => False) w2 w3 := Keeps.of_new hb3
      refine ⟨⟨HR2.out.keeps hk3 id id, hr3, HP.out.keeps (hk2.trans hk3) id, by omega, by omega, by omega, by omega, ?_, hg, (HB1.out.trans (HB2.out.mono h1)).trans (hb3.mono (by omega))⟩, fun x hx => by cases hx⟩
      rintro k (rfl | rfl) (h | h) <;> omega)
    generalize w1.heap.size + 1 = ra at *
    generalize w1.heap.size = sa at *
    generalize w2.heap.size + 1 = rb at *
    generalize w2.heap.size = sb at *
    clear hr3 hb3 hs3 HR2 HB2 HS2 HB1
    go_wp2_with fail
    go_loopw [11] (fun i wr => ∃ (k : Nat) (U : List Int), k ≤ m ∧ i = .int .i64 k ∧ Al w wr ra sa rb sb n U) (fun i _ => m - (intOf i).toNat)
    case atStart => exact ⟨0, [], Nat.zero_le _, rfl, HA3.out⟩
    case round =>
      obtain ⟨k, U, hk, rfl, hA⟩ := hrel
      clear HA3
      have HA := Lib.hid hA
      clear hA
      by_cases hkm : k < m
      · obtain ⟨b, o, rfl, hbl, hcell⟩ := HX.out (by omega)
        have hc0 := hcell k hkm
        have hxw : -9223372036854775808 ≤ l.getD k 0 ∧ l.getD k 0 ≤ 9223372036854775807 := i64_wf (HWF.out _ (by have := HM.out; rw [List.getD_eq_getElem?_getD, List.getElem?_eq_getElem (by omega)]; exact List.getElem_mem _))
        generalize l.getD k 0 = x at *
        have HBC : Hid (∀ W : World, Below w.heap.size w W → W.cell? ⟨b, o + k, none⟩ = some (.int .i64 x)) := Lib.hid fun W hW => (hW.cell (p := ⟨b, o + k, none⟩) hbl).trans hc0
        have HXW := Lib.hid hxw
        have hc := HBC.out wr HA.out.h.bel
        have hki : (0 : Int) ≤ (k : Int) ∧ (k : Int) < (m : Int) := by omega
        clear hcell hc0 hxw
        go_upto_region 13 with fail
        go_cut [77] (fun t77 wx => t77 = .bool false ∧ ∃ U1 : List Int, Al w wx ra sa rb sb n U1)
        case first =>
          have hA0 : Alike w wr ra sa rb sb n U (U.map sOf) := HA.out.h
          by_cases hUl : U.length < n
          · have HU := Lib.hid hUl
            have HV : Hid ((U.map sOf).length < n) := Lib.hid (by rw [List.length_map]; exact hUl)
            clear hUl
            go_region_held3 (fun W : World => W.cell? ⟨b, o + k, none⟩ = some (.int .i64 x)) (first | assumption | (simp only [World.cell?_drew]; assumption)) ((first
              | (go_at_call 12; refine (Alike.pushI_ok (by first | assumption | exact Alike.drew (by assumption) | exact Alike.drew (Alike.drew (by assumption))) HU.out x).mono ?_; rintro e wa ⟨rfl, ha⟩; have hca := HBC.out wa ha.bel)
              | (go_at_call 26; refine (Alike.itoa (by first | assumption | exact Alike.drew (by assumption) | exact Alike.drew (Alike.drew (by assumption))) x HXW.out).mono ?_; rintro e wi ⟨rfl, hi⟩; have hci := HBC.out wi hi.bel)
              | (go_at_call 25; refine (Alike.pushS_ok (by first | assumption | exact Alike.drew (by assumption) | exact Alike.drew (Alike.drew (by assumption))) HV.out (sOf x)).mono ?_; rintro e wb ⟨rfl, hb⟩; have hcb := HBC.out wb hb.bel)))
            all_goals (go_wp2_with fail; go_meet)
            all_goals exact ⟨rfl, U ++ [x], ⟨by rw [List.map_append]; first | assumption | exact Alike.drew (by assumption), fun y hy => by rcases List.mem_append.1 hy with h | h; exact HA.out.b y h; rw [List.mem_singleton.1 h]; exact HXW.out⟩⟩
          · have hUe : U.length = n := by have := hA0.a.le; omega
            have HU := Lib.hid hUe
            have HV : Hid ((U.map sOf).length = n) := Lib.hid (by rw [List.length_map]; exact hUe)
            clear hUl hUe
            go_region_held3 (fun W : World => W.cell? ⟨b, o + k, none⟩ = some (.int .i64 x)) (first | assumption | (simp only [World.cell?_drew]; assumption)) ((first
              | (go_at_call 12; refine (Alike.pushI_full (by first | assumption | exact Alike.drew (by assumption) | exact Alike.drew (Alike.drew (by assumption))) HU.out x).mono ?_; rintro e wa ⟨rfl, ha⟩; have hca := HBC.out wa ha.bel)
              | (go_at_call 26; refine (Alike.itoa (by first | assumption | exact Alike.drew (by assumption) | exact Alike.drew (Alike.drew (by assumption))) x HXW.out).mono ?_; rintro e wi ⟨rfl, hi⟩; have hci := HBC.out wi hi.bel)
              | (go_at_call 25; refine (Alike.pushS_full (by first | assumption | exact Alike.drew (by assumption) | exact Alike.drew (Alike.drew (by assumption))) HV.out (sOf x)).mono ?_; rintro e wb ⟨rfl, hb⟩; have hcb := HBC.out wb hb.bel)))
            all_goals (go_wp2_with fail; go_meet)
            all_goals exact ⟨rfl, U, ⟨by first | assumption | exact Alike.drew (by assumption), HA.out.b⟩⟩
        case rest =>
          obtain ⟨rfl, U1, hA1⟩ := hcut
          have HA1 := Lib.hid hA1
          clear HA hA1 hc HBC HXW
          go_upto_region 15 with fail
          go_cut [87] (fun t87 wx => wx = wc ∧ ∃ q : Bool, t87 = .bool q)
          case first =>
            by_cases hko : k < mo
            · obtain ⟨bq, oq, rfl, hblq, hcellq⟩ := HXO.out (by omega)
              have hcq := hcellq k hko
              rw [← HA1.out.h.bel.cell (p := ⟨bq, oq + k, none⟩) hblq] at hcq
              have hkoi : (k : Int) < (mo : Int) := by omega
              generalize ol.getD k false = q at *
              clear hcellq
              go_wp2_with fail
              go_meet
              exact ⟨rfl, q, rfl⟩
            · have hkoi : ¬ (k : Int) < (mo : Int) := by omega
              go_wp2_with fail
              go_meet
              exact ⟨rfl, false, rfl⟩
          case rest =>
            obtain ⟨rfl, q, rfl⟩ := hcut
            go_upto_if 87 with fail
            go_cut [] (fun wx => ∃ U2 : List Int, Al w wx ra sa rb sb n U2)
            case first =>
              cases q with
              | true =>
                cases U1 with
                | nil =>
                  go_wp2_with fail
                  refine (Alike.popI_none HA1.out.h).mono ?_
                  rintro e wp ⟨rfl, hp⟩
                  have HP1 := Lib.hid hp
                  clear hp
                  go_wp2_with fail
                  refine (Alike.popS_none HP1.out).mono ?_
                  rintro e wq ⟨rfl, hq⟩
                  have HQ1 := Lib.hid hq
                  clear hq
                  go_wp2_with fail
                  go_meet
                  exact ⟨[], HQ1.out, HA1.out.b⟩
                | cons y U2 =>
                  have HY : Hid (-9223372036854775808 ≤ y ∧ y ≤ 9223372036854775807) := Lib.hid (HA1.out.b y (List.mem_cons_self ..))
                  go_wp2_with fail
                  refine (Alike.popI_ok HA1.out.h).mono ?_
                  rintro e wp ⟨rfl, hp⟩
                  have HP1 := Lib.hid hp
                  clear hp
                  go_wp2_with fail
                  refine (Alike.popS_ok HP1.out).mono ?_
                  rintro e wq ⟨rfl, hq⟩
                  have HQ1 := Lib.hid hq
                  clear hq
                  go_wp2_with fail
                  refine (Alike.itoa HQ1.out y HY.out).mono ?_
                  rintro e ws ⟨rfl, hs⟩
                  have HS1 := Lib.hid hs
                  clear hs
                  go_wp2_with fail
                  go_meet
                  exact ⟨U2, HS1.out, fun z hz => HA1.out.b z (List.mem_cons_of_mem _ hz)⟩
              | false =>
                go_wp2_with fail
                go_meet
                exact ⟨U1, HA1.out⟩
            case rest =>
              obtain ⟨U2, hA2⟩ := hcut
              have HA2 := Lib.hid hA2
              clear HA1 hA2
              by_cases hkU : k < U2.length
              · have hy : U2[k]? = some U2[k] := List.getElem?_eq_getElem hkU
                have HY : Hid (-9223372036854775808 ≤ U2[k] ∧ U2[k] ≤ 9223372036854775807) := Lib.hid (HA2.out.b _ (List.getElem_mem _))
                generalize U2[k] = y at *
                have HYS : Hid ((U2.map sOf)[k]? = some (sOf y)) := Lib.hid (by rw [List.getElem?_map, hy]; rfl)
                have HYI := Lib.hid hy
                clear hy hkU
                go_wp2_with fail
                refine (Alike.atI_ok HA2.out.h k y HYI.out).mono ?_
                rintro e wp ⟨rfl, hp⟩
                have HP1 := Lib.hid hp
                clear hp
                go_wp2_with fail
                refine (Alike.atS_ok HP1.out k (sOf y) HYS.out).mono ?_
                rintro e wq ⟨rfl, hq⟩
                have HQ1 := Lib.hid hq
                clear hq
                go_wp2_with fail
                refine (Alike.itoa HQ1.out y HY.out).mono ?_
                rintro e ws ⟨rfl, hs⟩
                have HS1 := Lib.hid hs
                clear hs
                go_wp2_with fail
                refine (llenI HS1.out.a).mono ?_
                rintro e w9 ⟨rfl, rfl⟩
                go_wp2_with fail
                refine (llenS HS1.out.b).mono ?_
                rintro e w9 ⟨rfl, rfl⟩
                rw [List.length_map]
                go_wp2_with fail
                go_roundw
                case rel => exact ⟨k + 1, U2, by omega, by go_num, HS1.out, HA2.out.b⟩
                case measure => simp [intOf]; omega
              · go_wp2_with fail
                refine (latI_no HA2.out.h.a k (Or.inr (by omega))).mono ?_
                rintro e w9 ⟨rfl, rfl⟩
                go_wp2_with fail
                refine (latS_no HA2.out.h.b k (Or.inr (by rw [List.length_map]; omega))).mono ?_
                rintro e w9 ⟨rfl, rfl⟩
                go_wp2_with fail
                refine (llenI HA2.out.h.a).mono ?_
                rintro e w9 ⟨rfl, rfl⟩
                go_wp2_with fail
                refine (llenS HA2.out.h.b).mono ?_
                rintro e w9 ⟨rfl, rfl⟩
                rw [List.length_map]
                go_wp2_with fail
                go_roundw
                case rel => exact ⟨k + 1, U2, by omega, by go_num, HA2.out⟩
                case measure => simp [intOf]; omega
      · have hki : ¬ (k : Int) < (m : Int) := by omega
        go_wp2_with fail
        go_ret
        exact ⟨rfl, HA.out.h.bel⟩
end Go.Proofs.YtnhlabbempaidaaDoor
