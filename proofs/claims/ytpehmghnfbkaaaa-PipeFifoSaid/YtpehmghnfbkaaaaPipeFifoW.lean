/-
  The walk of the law PipeFifo: the k-th number that was sent comes to the k-th task that asked for one.
-/
import Derived.Test.YtpehmghnfbkaaaaPipeFfM
import Derived.Test.YtpehmghnfbkaaaaPipeZero
import Derived.Test.YtpehmghnfbkaaaaBools
import Derived.Deep.Cut
namespace Go.Proofs.Ytpehmghnfbkaaaa
open Go.RowKit Go.Maps Pp

/-- Ahead of task T's talk; n numbers have come. -/
structure FfB (w0 wr : World) (pb mb size : Nat) (bs : List Bool) (T n : Nat) (av : Value) (K : Nat) : Prop where
  live : ∃ ρ s, Live w0 wr ρ pb T s ∧ Fi size s (sOf bs T) (numsV (sOf bs T).length) (aOf bs T) T ∧ (∀ g, av.ownBlock = some g → ρ g = .free) ∧ ρ mb = .free
  own : OwnI wr w0.heap.size av ((aOf bs T).map fun (j : Nat) => (j : Int))
  map : ∃ (D : DataW Unit) (k : Nat), k ≤ K ∧ wr.ownsMap Try.prog 3 (plainElem Try.prog 3) mb k D ∧ Came D n (aOf bs T) T
  hmb : w0.heap.size ≤ mb
  off : ∀ g, av.ownBlock = some g → g ≠ mb
theorem FfB.new {w0 wr w' : World} {pb mb size : Nat} {bs : List Bool} {T n : Nat} {av : Value} {K : Nat} (h : FfB w0 wr pb mb size bs T n av K) (hk : Keeps (fun _ => False) wr w') : FfB w0 w' pb mb size bs T n av K := by
  obtain ⟨⟨ρ, s, h1, h2, h3, h4⟩, h5, ⟨D, k, h6, h7, h8⟩, h9, h10⟩ := h
  exact ⟨⟨ρ, s, h1.new hk, h2, h3, h4⟩, h5.keeps hk fun _ _ e => e, ⟨D, k, h6, hk.map h7 id, h8⟩, h9, h10⟩
/-- One more came. -/
theorem FfB.put {w0 wr w' : World} {pb mb size : Nat} {bs : List Bool} {T n : Nat} {av : Value} {K : Nat} (h : FfB w0 wr pb mb size bs T n av K) (hg : wr.grownBy w' (some mb)) {D' : DataW Unit} {k' n' K' : Nat} (hk' : k' ≤ K') (ho : w'.ownsMap Try.prog 3 (plainElem Try.prog 3) mb k' D') (hc : Came D' n' (aOf bs T) T) :
    FfB w0 w' pb mb size bs T n' av K' := by
  obtain ⟨⟨ρ, s, h1, h2, h3, h4⟩, h5, _, h9, h10⟩ := h
  have hk : Keeps (fun g => g = mb) wr w' := Keeps.of_grownBy hg fun g _ e => by cases e; rfl
  exact ⟨⟨ρ, s, h1.keeps hk fun g _ e => by rw [e]; exact ⟨h4, h9⟩, h2, h3, h4⟩, h5.keeps hk fun g hg2 e => h10 g hg2 e, ⟨D', k', hk', ho, hc⟩, h9, h10⟩
theorem FfB.after {w0 w2 w5 : World} {pb mb size : Nat} {bs : List Bool} {T n k K : Nat} {av : Value} {ρ ρ5 : Nat → Role} {s5 : St} {D : DataW Unit} (hl : Live w0 w5 ρ5 pb T s5) (hfi : Fi size s5 (sOf bs T) (numsV (sOf bs T).length) (aOf bs T) T) (hx : ∀ g, g < w2.heap.size → ρ5 g = ρ g)
    (hk : Keeps (fun b => ρ b ≠ .free) w2 w5) (ho : OwnI w2 w0.heap.size av ((aOf bs T).map fun (j : Nat) => (j : Int))) (hfa : ∀ g, av.ownBlock = some g → ρ g = .free) (hm : w2.ownsMap Try.prog 3 (plainElem Try.prog 3) mb k D) (hmf : ρ mb = .free)
    (hc : Came D n (aOf bs T) T) (hkK : k ≤ K) (hmb : w0.heap.size ≤ mb) (hoff : ∀ g, av.ownBlock = some g → g ≠ mb) : FfB w0 w5 pb mb size bs T n av K :=
  ⟨⟨ρ5, s5, hl, hfi, fun g hg => by rw [hx g (World.ownsRow.lt ho g hg).2]; exact hfa g hg, by rw [hx mb hm.lt]; exact hmf⟩, ho.keeps hk fun g hg e => e (hfa g hg), ⟨D, k, hkK, hk.map hm (fun e => e hmf), hc⟩, hmb, hoff⟩
theorem FfB.mono {w0 wr : World} {pb mb size : Nat} {bs : List Bool} {T n : Nat} {av : Value} {K K' : Nat} (h : FfB w0 wr pb mb size bs T n av K) (hk : K ≤ K') : FfB w0 wr pb mb size bs T n av K' := by
  obtain ⟨h1, h2, ⟨D, k, h3, h4⟩, h5, h6⟩ := h
  exact ⟨h1, h2, ⟨D, k, Nat.le_trans h3 hk, h4⟩, h5, h6⟩

theorem FfB.made {w0 w6 w7 : World} {pb mb size : Nat} {bs : List Bool} {T n k K : Nat} {av : Value} {ρ5 : Nat → Role} {s5 : St} {D : DataW Unit} (hl : Live w0 w6 ρ5 pb T s5) (hfi : Fi size s5 (sOf bs T) (numsV (sOf bs T).length) (aOf bs T) T)
    (ho : OwnI w6 w0.heap.size av ((aOf bs T).map fun (j : Nat) => (j : Int))) (hfa : ∀ g, av.ownBlock = some g → ρ5 g = .free) (hmf : ρ5 mb = .free) (hg : w6.grownBy w7 (some mb)) (hm : w7.ownsMap Try.prog 3 (plainElem Try.prog 3) mb k D)
    (hc : Came D n (aOf bs T) T) (hkK : k ≤ K) (hmb : w0.heap.size ≤ mb) (hoff : ∀ g, av.ownBlock = some g → g ≠ mb) : FfB w0 w7 pb mb size bs T n av K := by
  have hk : Keeps (fun g => g = mb) w6 w7 := Keeps.of_grownBy hg fun g _ e => by cases e; rfl
  exact ⟨⟨ρ5, s5, hl.keeps hk fun g _ e => by rw [e]; exact ⟨hmf, hmb⟩, hfi, hfa, hmf⟩, ho.keeps hk fun g hg2 e => hoff g hg2 e, ⟨D, k, hkK, hm, hc⟩, hmb, hoff⟩

set_option maxRecDepth 100000 in
set_option maxHeartbeats 12800000 in
theorem pipeFifo_any (size : Int) (v : Value) (bs : List Bool) (w : World) (_ : -9223372036854775808 ≤ size) (_ : size ≤ 9223372036854775807) (hv : BoolsAt w v bs) :
    Calls Try.prog 3 #[.int .i64 size, v] w fun e w' => e = .returned (.bool true) ∧ Below w.heap.size w w' := by
  obtain ⟨ao, len, cap, rfl, hlen, hcap, hmax, hx⟩ := hv
  unfold maxLen at hmax
  have HLEN := Lib.hid hlen
  clear hlen
  have HX := Lib.hid hx
  clear hx
  go_enter Try.func3, Try.ntmps3
  go_wp2_with fail
  refine (piped_any w).mono ?_
  rintro e w1 ⟨rfl, hb1⟩
  have HB1 := Lib.hid hb1
  clear hb1
  by_cases h80 : 80 < len
  · have h80i : (80 : Int) < (len : Int) := by omega
    go_wp2_with fail
    go_ret
    exact ⟨rfl, HB1.out⟩
  · have h80i : ¬ (80 : Int) < (len : Int) := by omega
    obtain ⟨ρ0, hl0⟩ := live_zero HB1.out 28
    have HL0 := Lib.hid hl0
    clear hl0
    go_wp2_with fail
    refine (pick_any size 9 _ (by decide) (by decide)).mono ?_
    rintro e w2 ⟨sz, hsz, rfl, rfl⟩
    go_wp2_with fail
    refine (live_make HL0.out sz (by omega) (by decide)).mono ?_
    rintro e w3 ⟨rfl, ⟨ρ3, h3, -⟩, -⟩
    rw [show ((Pp.zero.chs.length : Int) + 1) = 1 from rfl]
    have H3 := Lib.hid h3
    have hmm := @run_makeMap Try.prog
    have hmk := alloc_new w3 (.map #[] 0)
    have HJ0 : Hid (FfB w (w3.alloc (.map #[] 0)) w1.heap.size w3.heap.size sz bs 0 0 (.slice none 0 0) 0) := Lib.hid ⟨⟨ρ3, _, h3.new hmk, Fi.zero sz, fun g hg => (by cases hg), h3.free (Or.inl (Nat.le_refl _))⟩, ownI_nil _ _, ⟨.map [], 0, Nat.le_refl _, World.ownsMap_made w3 Try.prog 3 (plainElem Try.prog 3), Came.zero⟩, h3.below.size, fun g hg => by cases hg⟩
    clear h3 hmk
    go_wp2_with fail
    clear hmm
    generalize w3.alloc (.map #[] 0) = w4 at *
    generalize w3.heap.size = mb at *
    generalize w1.heap.size = pb at *
    go_loopw [9, 10, 11] (fun av nv tv wr => ∃ T : Nat, T ≤ len ∧ tv = .int .i64 T ∧ nv = .int .i64 ((sOf bs T).length : Nat) ∧ FfB w wr pb mb sz bs T (sOf bs T).length av (3 * T)) (fun _ _ tv _ => len - (intOf tv).toNat)
    case atStart => exact ⟨0, Nat.zero_le _, rfl, rfl, HJ0.out⟩
    case round =>
      obtain ⟨T, hT, rfl, rfl, hJ⟩ := hrel
      obtain ⟨al, cl, hlv⟩ := hJ.own.slice
      rw [List.length_map] at hlv
      subst hlv
      have HJ := Lib.hid hJ
      have hal := aOf_len bs T
      have hsl := sOf_len bs T
      clear hJ HJ0
      by_cases hTl : T < len
      · obtain ⟨vb, vo, rfl, hvb, hcell⟩ := HX.out (by omega)
        have hct := hcell T hTl
        obtain ⟨ρ, s, hlive, hfi, hfr, hmf⟩ := HJ.out.live
        obtain ⟨D, k, hkK, hDo, hDc⟩ := HJ.out.map
        have hcr : wr.cell? ⟨vb, vo + T, none⟩ = some (.bool (bs.getD T false)) := (hlive.below.cell (p := ⟨vb, vo + T, none⟩) hvb).trans hct
        have HLIVE := Lib.hid hlive
        have HFI := Lib.hid hfi
        have HFR := Lib.hid hfr
        have HMF := Lib.hid hmf
        have HDO := Lib.hid hDo
        have HDC := Lib.hid hDc
        have HKK := Lib.hid hkK
        have HCELL : Hid (∀ (W : World) (i : Nat), Below w.heap.size w W → i < len → W.cell? ⟨vb, vo + i, none⟩ = some (.bool (bs.getD i false))) := Lib.hid fun W i hb hi => (hb.cell (p := ⟨vb, vo + i, none⟩) hvb).trans (hcell i hi)
        have hTi : (0 : Int) ≤ (T : Int) ∧ (T : Int) < (len : Int) := by omega
        have hwfT : (Lit.int .i64 (T : Int)).wf = true := wf_small _ (by omega)
        have HWFT := Lib.hid hwfT
        have hsl80 : (sOf bs T).length ≤ 80 := by omega
        clear hlive hfi hfr hmf hDo hDc hkK hct hcell hwfT hvb hal hsl
        have hk1 := alloc_new wr (.cells #[.int .i64 10, .int .i64 1, .int .i64 0] 61)
        have hcr1 := Go.Lib.cell?_alloc_some (.cells #[.int .i64 10, .int .i64 1, .int .i64 0] 61) hcr
        have HK1 := Lib.hid hk1
        clear hk1
        cases hb : bs.getD T false with
        | true =>
          rw [hb] at hcr hcr1
          obtain ⟨hS, hA⟩ := sOf_true hb
          have HB := Lib.hid hb
          have HS := Lib.hid hS
          have HA := Lib.hid hA
          clear hb hS hA
          have HLIVE2 := Lib.hid ((HLIVE.out.new HK1.out).new (alloc_new _ (.cells #[.int .i64 3, .int .i64 1, .int .i64 (((sOf bs T).length : Int) + 1)] 61)))
          have HK2 := Lib.hid (HK1.out.trans (alloc_new (wr.alloc (.cells #[.int .i64 10, .int .i64 1, .int .i64 0] 61)) (.cells #[.int .i64 3, .int .i64 1, .int .i64 (((sOf bs T).length : Int) + 1)] 61)))
          have HF2 : Hid (ρ (wr.heap.size + 1) = .free) := Lib.hid (HLIVE.out.free (Or.inl (Nat.le_succ _)))
          have HO2 : Hid (OwnI ((wr.alloc (.cells #[.int .i64 10, .int .i64 1, .int .i64 0] 61)).alloc (.cells #[.int .i64 3, .int .i64 1, .int .i64 (((sOf bs T).length : Int) + 1)] 61)) w.heap.size (.slice al (aOf bs T).length cl) ((aOf bs (T + 1)).map fun (j : Nat) => (j : Int))) := Lib.hid (by rw [HA.out]; exact HJ.out.own.keeps HK2.out fun _ _ e => e)
          have HM2 := Lib.hid (HK2.out.map HDO.out id)
          have HNS : Hid ((sOf bs (T + 1)).length = (sOf bs T).length + 1) := Lib.hid (by rw [HS.out, List.length_append]; rfl)
          have HNV : Hid (numsV (sOf bs (T + 1)).length = numsV (sOf bs T).length ++ [((sOf bs T).length : Int) + 1]) := Lib.hid (by rw [HNS.out, numsV_succ])
          go_wp2_with fail
          refine (rrecv_any wr 1).mono ?_
          rintro e w5 ⟨rfl, rfl⟩
          go_wp2_with fail
          refine (rsend_any _ 1 _).mono ?_
          rintro e w5 ⟨rfl, rfl⟩
          have HTA := Lib.hid (talk_one (wr.alloc (.cells #[.int .i64 10, .int .i64 1, .int .i64 0] 61)) ⟨3, 1, ((sOf bs T).length : Int) + 1⟩ 61 (b := wr.heap.size + 1) (by simp))
          go_wp2_with fail
          rcases Nat.lt_or_ge (sOf bs T).length (aOf bs T).length with h1 | h1
          · obtain ⟨x, st, hxa, htk, hfi2⟩ := HFI.out.sendWake (((sOf bs T).length : Int) + 1) h1
            refine (live_talk HLIVE2.out (by omega) T HWFT.out HTA.out (fun g hg => by cases hg; exact HF2.out) 0 (by decide) htk (er := .nilIface) rfl).mono ?_
            rintro e w5 ⟨vw, rfl, ⟨ρ5, h5, hx5, -⟩, hw5, hk5⟩
            have HB5 := Lib.hid ((FfB.after (n := (sOf bs T).length) (K := 3 * T) h5 (by rw [HNV.out, HS.out, HA.out]; exact hfi2) hx5 hk5 HO2.out HFR.out HM2.out HMF.out (by rw [HA.out]; exact HDC.out.later) HKK.out HJ.out.hmb HJ.out.off).new (alloc_new w5 (.cells #[.int .i64 0, .int .i64 0] 40)))
            have hbel : Below w.heap.size w (w5.alloc (.cells #[.int .i64 0, .int .i64 0] 40)) := h5.below.trans ((alloc_new w5 (.cells #[.int .i64 0, .int .i64 0] 40)).below h5.below.size fun _ _ e => e.elim)
            have hc6 : (w5.alloc (.cells #[.int .i64 0, .int .i64 0] 40)).cell? ⟨vb, vo + T, none⟩ = some (.bool true) := (HCELL.out _ T hbel hTl).trans (by rw [HB.out])
            have HBEL := Lib.hid hbel
            obtain ⟨g, cw, rfl, hcw1, hcw2, k0, k1, k2⟩ := wake_cells hw5
            obtain ⟨hxT, hxb⟩ := mem_aOf (List.mem_of_getElem? hxa)
            have q0 := Go.Lib.cell?_alloc_some (.cells #[.int .i64 0, .int .i64 0] 40) k0
            have q1 := Go.Lib.cell?_alloc_some (.cells #[.int .i64 0, .int .i64 0] 40) k1
            have q2 := Go.Lib.cell?_alloc_some (.cells #[.int .i64 0, .int .i64 0] 40) k2
            have HXA := Lib.hid hxa
            have HXB := Lib.hid hxb
            have hlx : x < len := by omega
            have hxi : (0 : Int) ≤ (x : Int) ∧ (x : Int) < (len : Int) := by omega
            have hxTi : (x : Int) < (T : Int) := by omega
            have HWFX : Hid ((Lit.int .i64 (x : Int)).wf = true) := Lib.hid (wf_small _ (by omega))
            have HNOD := Lib.hid HFI.out.nodA
            clear h5 hx5 hw5 hk5 hbel htk hfi2 hxa hxb k0 k1 k2 h1
            go_upto_region 25 with fail
            generalize w5.alloc (.cells #[.int .i64 0, .int .i64 0] 40) = w6 at *
            obtain ⟨D5, k5, hkk5, ho5, hc5⟩ := HB5.out.map
            have HO5 := Lib.hid ho5
            have HC5 := Lib.hid hc5
            have HKK5 := Lib.hid hkk5
            clear ho5 hc5 hkk5
            go_wp2_with fail
            go_loopw [17] (fun iv wx => (iv = .int .i64 0 ∧ wx = w6) ∨ (iv = .int .i64 1 ∧ FfB w wx pb mb sz bs (T + 1) ((sOf bs T).length + 1) (.slice al (aOf bs T).length cl) (3 * T + 1))) (fun iv _ => 1 - (intOf iv).toNat)
            case atStart => exact Or.inl ⟨rfl, rfl⟩
            case round =>
              rcases hrel with ⟨rfl, hww⟩ | ⟨rfl, hBI⟩
              · subst hww
                have hk7 := alloc_new wr (.cells #[.int .i64 (x : Int), .int .i64 0, .int .i64 (((sOf bs T).length : Int) + 1)] 45)
                have hcx7 := HCELL.out _ x (HBEL.out.trans (hk7.below HBEL.out.size fun _ _ e => e.elim)) hlx
                rw [HXB.out] at hcx7
                have HB7 := Lib.hid (HB5.out.new hk7)
                have HO7 := Lib.hid (hk7.map HO5.out id)
                have hkl : k5 ≤ 1000 := by have := HKK5.out; omega
                clear hk7
                go_wp2_with (at_mapUpdate; refine wpList_mapUpdate_own _ rfl _ _ _ 34 rfl 3 3 keyedP Try.underlying34 _ mb k5 D5 rfl HO7.out (by unfold maxLen; omega) _ _ _ rfl rfl (keyOf_int_mk Try.underlying3 HWFX.out) _ [] (plainElem_int Try.underlying3 (wf_small (((sOf bs T).length : Int) + 1) (by omega))) ?_; intro w8 hown8 hgrow8; have HO8 := Lib.hid hown8; have HG8 := Lib.hid hgrow8; clear hown8 hgrow8)
                go_roundw
                case rel =>
                  refine Or.inr ⟨rfl, HB7.out.put HG8.out (Nat.succ_le_succ HKK5.out) HO8.out ?_⟩
                  rw [HA.out]
                  have := HC5.out
                  rw [HA.out] at this
                  exact this.wake (HO5.out.tidy keyedP) HNOD.out HXA.out (by omega)
                case measure => simp [intOf]
              · have HBI := Lib.hid hBI
                clear hBI HB5
                go_wp2_with fail
                go_roundw
                case rel => exact ⟨T + 1, by omega, by go_num, by rw [HNS.out]; go_num, by rw [HNS.out]; exact HBI.out.mono (by omega)⟩
                case measure => simp [intOf]; omega

          · rcases Nat.lt_or_ge (sOf bs T).length ((aOf bs T).length + sz) with h2 | h2
            · obtain ⟨st, htk, hfi2⟩ := HFI.out.sendRoom (((sOf bs T).length : Int) + 1) (by omega) h2
              refine (live_talk HLIVE2.out (by omega) T HWFT.out HTA.out (fun g hg => by cases hg; exact HF2.out) 0 (by decide) htk (er := .nilIface) rfl).mono ?_
              rintro e w5 ⟨vw, rfl, ⟨ρ5, h5, hx5, -⟩, hw5, hk5⟩
              have HB5 := Lib.hid ((FfB.after (n := (sOf bs (T + 1)).length) (K := 3 * T) h5 (by rw [HNV.out, HS.out, HA.out]; exact hfi2) hx5 hk5 HO2.out HFR.out HM2.out HMF.out (by rw [HA.out, HNS.out]; exact HDC.out.more (by omega)) HKK.out HJ.out.hmb HJ.out.off).new (alloc_new w5 (.cells #[.int .i64 0, .int .i64 0] 40)))
              have hbel : Below w.heap.size w (w5.alloc (.cells #[.int .i64 0, .int .i64 0] 40)) := h5.below.trans ((alloc_new w5 (.cells #[.int .i64 0, .int .i64 0] 40)).below h5.below.size fun _ _ e => e.elim)
              have hc6 : (w5.alloc (.cells #[.int .i64 0, .int .i64 0] 40)).cell? ⟨vb, vo + T, none⟩ = some (.bool true) := (HCELL.out _ T hbel hTl).trans (by rw [HB.out])
              have HBEL := Lib.hid hbel
              obtain ⟨aw, cw, hvw⟩ := own_sliceK hw5
              subst hvw
              clear h5 hx5 hw5 hk5 hbel htk hfi2
              go_upto_region 25 with fail
              generalize w5.alloc (.cells #[.int .i64 0, .int .i64 0] 40) = w6 at *
              go_wp2_with fail
              go_loopw [17] (fun iv wx => iv = .int .i64 0 ∧ FfB w wx pb mb sz bs (T + 1) (sOf bs (T + 1)).length (.slice al (aOf bs T).length cl) (3 * T)) (fun _ _ => 0)
              case atStart => exact ⟨rfl, HB5.out⟩
              case round =>
                obtain ⟨rfl, hBI⟩ := hrel
                have HBI := Lib.hid hBI
                clear hBI HB5
                go_wp2_with fail
                go_roundw
                case rel => exact ⟨T + 1, by omega, by go_num, by rw [HNS.out]; go_num, HBI.out.mono (by omega)⟩
                case measure => simp [intOf]; omega

            · obtain ⟨st, htk, hfi2⟩ := HFI.out.sendWait (((sOf bs T).length : Int) + 1) (by omega)
              refine (live_talk HLIVE2.out (by omega) T HWFT.out HTA.out (fun g hg => by cases hg; exact HF2.out) 0 (by decide) htk (er := .nilIface) rfl).mono ?_
              rintro e w5 ⟨vw, rfl, ⟨ρ5, h5, hx5, -⟩, hw5, hk5⟩
              have HB5 := Lib.hid ((FfB.after (n := (sOf bs (T + 1)).length) (K := 3 * T) h5 (by rw [HNV.out, HS.out, HA.out]; exact hfi2) hx5 hk5 HO2.out HFR.out HM2.out HMF.out (by rw [HA.out, HNS.out]; exact HDC.out.more (by omega)) HKK.out HJ.out.hmb HJ.out.off).new (alloc_new w5 (.cells #[.int .i64 0, .int .i64 0] 40)))
              have hbel : Below w.heap.size w (w5.alloc (.cells #[.int .i64 0, .int .i64 0] 40)) := h5.below.trans ((alloc_new w5 (.cells #[.int .i64 0, .int .i64 0] 40)).below h5.below.size fun _ _ e => e.elim)
              have hc6 : (w5.alloc (.cells #[.int .i64 0, .int .i64 0] 40)).cell? ⟨vb, vo + T, none⟩ = some (.bool true) := (HCELL.out _ T hbel hTl).trans (by rw [HB.out])
              have HBEL := Lib.hid hbel
              obtain ⟨aw, cw, hvw⟩ := own_sliceK hw5
              subst hvw
              clear h5 hx5 hw5 hk5 hbel htk hfi2
              go_upto_region 25 with fail
              generalize w5.alloc (.cells #[.int .i64 0, .int .i64 0] 40) = w6 at *
              go_wp2_with fail
              go_loopw [17] (fun iv wx => iv = .int .i64 0 ∧ FfB w wx pb mb sz bs (T + 1) (sOf bs (T + 1)).length (.slice al (aOf bs T).length cl) (3 * T)) (fun _ _ => 0)
              case atStart => exact ⟨rfl, HB5.out⟩
              case round =>
                obtain ⟨rfl, hBI⟩ := hrel
                have HBI := Lib.hid hBI
                clear hBI HB5
                go_wp2_with fail
                go_roundw
                case rel => exact ⟨T + 1, by omega, by go_num, by rw [HNS.out]; go_num, HBI.out.mono (by omega)⟩
                case measure => simp [intOf]; omega

        | false =>
          rw [hb] at hcr hcr1
          obtain ⟨hS, hA⟩ := sOf_false hb
          have HB := Lib.hid hb
          have HS := Lib.hid hS
          have HA := Lib.hid hA
          clear hb hS hA
          have HLIVE1 := Lib.hid (HLIVE.out.new HK1.out)
          have HO1 := Lib.hid (HJ.out.own.keeps HK1.out fun _ _ e => e)
          have HM1 := Lib.hid (HK1.out.map HDO.out id)
          have HTA1 := Lib.hid (talk_one wr ⟨10, 1, 0⟩ 61 (b := wr.heap.size) rfl)
          have HF1 : Hid (ρ wr.heap.size = .free) := Lib.hid (HLIVE.out.free (Or.inl (Nat.le_refl _)))
          have HNS : Hid ((sOf bs (T + 1)).length = (sOf bs T).length) := Lib.hid (by rw [HS.out])
          have HSZ : Hid (wr.heap.size < (wr.alloc (.cells #[.int .i64 10, .int .i64 1, .int .i64 0] 61)).heap.size) := Lib.hid (by simp)
          have HOL : Hid (∀ g, (Value.slice al (aOf bs T).length cl).ownBlock = some g → g < wr.heap.size ∧ w.heap.size ≤ g) := Lib.hid fun g hg => ⟨(World.ownsRow.lt HJ.out.own g hg).2, (World.ownsRow.lt HJ.out.own g hg).1⟩
          have HAL80 : Hid ((aOf bs T).length ≤ 80) := Lib.hid (by have := aOf_len bs T; omega)
          go_wp2_with fail
          refine (rrecv_any wr 1).mono ?_
          rintro e w5 ⟨rfl, rfl⟩
          generalize wr.alloc (.cells #[.int .i64 10, .int .i64 1, .int .i64 0] 61) = wq at *
          have HBW : Hid (w.heap.size ≤ wq.heap.size) := Lib.hid HLIVE1.out.below.size
          go_wp2_with (at_builtin; go_loud (refine wpList_appendI rfl _ _ rfl wq w.heap.size _ ((aOf bs T).map fun (j : Nat) => (j : Int)) (T : Int) HO1.out rfl rfl (by rw [List.length_map]; have := HAL80.out; omega) HBW.out ?_; intro a6 c6 w2 hO2 hK2 hN2; have HO2 := Lib.hid hO2; have HK2 := Lib.hid hK2; have HN2 := Lib.hid hN2; clear hO2 hK2 hN2))
          have ho2 := HO2.out
          have hn2 := HN2.out
          rw [List.length_map] at ho2 hn2
          have HON2 : Hid (OwnI w2 w.heap.size (.slice a6 ((aOf bs T).length + 1) c6) ((aOf bs (T + 1)).map fun (j : Nat) => (j : Int))) := Lib.hid (by rw [HA.out, List.map_append]; exact ho2)
          have HFN2 : Hid (∀ g, (Value.slice a6 ((aOf bs T).length + 1) c6).ownBlock = some g → ρ g = .free) := Lib.hid fun g hg => by
            rcases hn2 g hg with h8 | h8
            · exact HFR.out g h8
            · exact HLIVE1.out.free (Or.inl h8)
          have HOFF2 : Hid (∀ g, (Value.slice a6 ((aOf bs T).length + 1) c6).ownBlock = some g → g ≠ mb) := Lib.hid fun g hg => by
            rcases hn2 g hg with h8 | h8
            · exact HJ.out.off g h8
            · have := HM1.out.lt; omega
          have HLIVE2 := Lib.hid (HLIVE1.out.keeps HK2.out fun g _ e => ⟨HFR.out g e, (HOL.out g e).2⟩)
          have HM2 := Lib.hid (HK2.out.map HM1.out fun e => HJ.out.off mb e rfl)
          have HTA : Hid (TalksAt w2 (.slice (some ⟨wr.heap.size, 0, none⟩) 1 1) [⟨10, 1, 0⟩]) := Lib.hid (HTA1.out.keeps HK2.out fun g hg e => by
            cases hg
            exact Nat.lt_irrefl _ (HOL.out _ e).1)
          have HF2 := HF1
          have HTLN : Hid (T ∉ aOf bs T) := Lib.hid fun e => Nat.lt_irrefl _ (mem_aOf e).1
          clear ho2 hn2
          go_wp2_with fail
          rcases Nat.lt_or_ge (aOf bs T).length (sOf bs T).length with h1 | h1
          · obtain ⟨vv, st, wk, hvv, htk, hwk, hfi2⟩ := HFI.out.recvGet h1
            have hvn := numsV_get hvv
            subst hvn
            refine (live_talk HLIVE2.out (by omega) T HWFT.out HTA.out (fun g hg => by cases hg; exact HF2.out) 0 (by decide) htk (er := .nilIface) rfl).mono ?_
            rintro e w5 ⟨vw, rfl, ⟨ρ5, h5, hx5, -⟩, hw5, hk5⟩
            have hka := alloc_new w5 (.cells #[.int .i64 0, .int .i64 (((aOf bs T).length : Int) + 1)] 40)
            have HL6 := Lib.hid (h5.new hka)
            have HFI6 : Hid (Fi sz st (sOf bs (T + 1)) (numsV (sOf bs (T + 1)).length) (aOf bs (T + 1)) (T + 1)) := Lib.hid (by rw [HS.out, HA.out]; exact hfi2)
            have HO6 := Lib.hid ((HON2.out.keeps hk5 fun g hg e => e (HFN2.out g hg)).keeps hka fun _ _ e => e)
            have HFA6 : Hid (∀ g, (Value.slice a6 ((aOf bs T).length + 1) c6).ownBlock = some g → ρ5 g = .free) := Lib.hid fun g hg => by rw [hx5 g (World.ownsRow.lt HON2.out g hg).2]; exact HFN2.out g hg
            have HMF6 : Hid (ρ5 mb = .free) := Lib.hid (by rw [hx5 mb HM2.out.lt]; exact HMF.out)
            have HM6 := Lib.hid (hka.map (hk5.map HM2.out fun e => e HMF.out) id)
            have hbel : Below w.heap.size w (w5.alloc (.cells #[.int .i64 0, .int .i64 (((aOf bs T).length : Int) + 1)] 40)) := HL6.out.below
            have hc6 : (w5.alloc (.cells #[.int .i64 0, .int .i64 (((aOf bs T).length : Int) + 1)] 40)).cell? ⟨vb, vo + T, none⟩ = some (.bool false) := (HCELL.out _ T hbel hTl).trans (by rw [HB.out])
            have HAG : Hid (Came (D.put (.int .i64 (T : Int)) (.lit (.int .i64 (((aOf bs T).length : Int) + 1)))) (sOf bs T).length (aOf bs (T + 1)) (T + 1)) := Lib.hid (by rw [HA.out]; exact HDC.out.get (HDO.out.tidy keyedP) h1 HTLN.out)
            have hkl : k ≤ 1000 := by have := HKK.out; omega
            have ham : (aOf bs T).length ≤ 80 := HAL80.out
            have b0 : (w5.alloc (.cells #[.int .i64 0, .int .i64 (((aOf bs T).length : Int) + 1)] 40)).cell? ⟨w5.heap.size, 1, none⟩ = some (.int .i64 (((aOf bs T).length : Int) + 1)) := by rw [World.cell?_alloc_at _ _ _ _ rfl]; rfl
            have HWK := Lib.hid (World.ownsRow.alloc hw5 (.cells #[.int .i64 0, .int .i64 (((aOf bs T).length : Int) + 1)] 40))
            have HMBL : Hid (mb < w2.heap.size) := Lib.hid HM2.out.lt
            have hvs := own_sliceK hw5
            clear h5 hx5 hw5 hk5 hka hbel htk hfi2 hvv
            obtain ⟨aw, cw, rfl⟩ := hvs
            go_upto_region 23 with fail
            clear hsl80
            generalize hW6 : w5.alloc (.cells #[.int .i64 0, .int .i64 (((aOf bs T).length : Int) + 1)] 40) = w6 at *
            clear hW6
            go_wp2_with (at_mapUpdate; refine wpList_mapUpdate_own _ rfl _ _ _ 34 rfl 3 3 keyedP Try.underlying34 _ mb k D rfl HM6.out (by unfold maxLen; omega) _ _ _ rfl rfl (keyOf_int_mk Try.underlying3 HWFT.out) _ [] (plainElem_int Try.underlying3 (wf_small (((aOf bs T).length : Int) + 1) (by omega))) ?_; intro w8 hown8 hgrow8; have HO8 := Lib.hid hown8; have HG8 := Lib.hid hgrow8; clear hown8 hgrow8)
            have HB8 : Hid (FfB w w8 pb mb sz bs (T + 1) (sOf bs T).length (.slice a6 ((aOf bs T).length + 1) c6) (3 * T + 1)) := Lib.hid (FfB.made HL6.out HFI6.out HO6.out HFA6.out HMF6.out HG8.out HO8.out HAG.out (Nat.succ_le_succ HKK.out) HJ.out.hmb HOFF2.out)
            have HK8 : Hid (Keeps (fun g => g = mb) w6 w8) := Lib.hid (Keeps.of_grownBy HG8.out fun g _ e => by cases e; rfl)
            rcases hwk with rfl | ⟨x, hxS, rfl⟩
            · go_wp2_with fail
              go_loopw [17] (fun iv wx => iv = .int .i64 0 ∧ FfB w wx pb mb sz bs (T + 1) (sOf bs T).length (.slice a6 ((aOf bs T).length + 1) c6) (3 * T + 1)) (fun _ _ => 0)
              case atStart => exact ⟨rfl, HB8.out⟩
              case round =>
                obtain ⟨rfl, hBI⟩ := hrel
                have HBI := Lib.hid hBI
                clear hBI HB8
                go_wp2_with fail
                go_roundw
                case rel => exact ⟨T + 1, by omega, by go_num, by rw [HNS.out], by rw [HNS.out]; exact HBI.out.mono (by omega)⟩
                case measure => simp [intOf]; omega
            · obtain ⟨hxT, hxb⟩ := mem_sOf hxS
              obtain ⟨g, cw2, hvg, hcw1, hcw2, k0, k1, k2⟩ := wake_cells HWK.out
              rw [Value.slice.injEq] at hvg
              obtain ⟨rfl, -, rfl⟩ := hvg
              have hgm : ¬ g = mb := by
                have h8 := (World.ownsRow.lt HWK.out g rfl).1
                have := HMBL.out
                omega
              have q0 := HK8.out.cell_of k0 hgm
              have q1 := HK8.out.cell_of k1 hgm
              have q2 := HK8.out.cell_of k2 hgm
              have HXB := Lib.hid hxb
              have hlx : x < len := by omega
              have hxi : (0 : Int) ≤ (x : Int) ∧ (x : Int) < (len : Int) := by omega
              have hxTi : (x : Int) < (T : Int) := by omega
              obtain ⟨ρ9, s9, hl9, -⟩ := HB8.out.live
              have HBEL8 := Lib.hid hl9.below
              clear k0 k1 k2 hxb hl9 hxS
              go_wp2_with fail
              go_loopw [17] (fun iv wx => (iv = .int .i64 0 ∧ wx = w8) ∨ (iv = .int .i64 1 ∧ FfB w wx pb mb sz bs (T + 1) (sOf bs T).length (.slice a6 ((aOf bs T).length + 1) c6) (3 * T + 1))) (fun iv _ => 1 - (intOf iv).toNat)
              case atStart => exact Or.inl ⟨rfl, rfl⟩
              case round =>
                rcases hrel with ⟨rfl, hww⟩ | ⟨rfl, hBI⟩
                · subst hww
                  have hk7 := alloc_new wr (.cells #[.int .i64 (x : Int), .int .i64 0, .int .i64 0] 45)
                  have hcx7 := HCELL.out _ x (HBEL8.out.trans (hk7.below HBEL8.out.size fun _ _ e => e.elim)) hlx
                  rw [HXB.out] at hcx7
                  have HB7 := Lib.hid (HB8.out.new hk7)
                  clear hk7
                  go_wp2_with fail
                  go_roundw
                  case rel => exact Or.inr ⟨rfl, HB7.out⟩
                  case measure => simp [intOf]
                · have HBI := Lib.hid hBI
                  clear hBI HB8
                  go_wp2_with fail
                  go_roundw
                  case rel => exact ⟨T + 1, by omega, by go_num, by rw [HNS.out], by rw [HNS.out]; exact HBI.out.mono (by omega)⟩
                  case measure => simp [intOf]; omega

          · obtain ⟨st, htk, hfi2⟩ := HFI.out.recvWait h1
            refine (live_talk HLIVE2.out (by omega) T HWFT.out HTA.out (fun g hg => by cases hg; exact HF2.out) 0 (by decide) htk (er := .nilIface) rfl).mono ?_
            rintro e w5 ⟨vw, rfl, ⟨ρ5, h5, hx5, -⟩, hw5, hk5⟩
            have HB5 := Lib.hid ((FfB.after (n := (sOf bs T).length) (K := 3 * T) h5 (by rw [HS.out, HA.out]; exact hfi2) hx5 hk5 HON2.out HFN2.out HM2.out HMF.out (by rw [HA.out]; exact HDC.out.wait h1) HKK.out HJ.out.hmb HOFF2.out).new (alloc_new w5 (.cells #[.int .i64 0, .int .i64 0] 40)))
            have hbel : Below w.heap.size w (w5.alloc (.cells #[.int .i64 0, .int .i64 0] 40)) := h5.below.trans ((alloc_new w5 (.cells #[.int .i64 0, .int .i64 0] 40)).below h5.below.size fun _ _ e => e.elim)
            have hc6 : (w5.alloc (.cells #[.int .i64 0, .int .i64 0] 40)).cell? ⟨vb, vo + T, none⟩ = some (.bool false) := (HCELL.out _ T hbel hTl).trans (by rw [HB.out])
            have HBEL := Lib.hid hbel
            obtain ⟨aw, cw, hvw⟩ := own_sliceK hw5
            subst hvw
            clear h5 hx5 hw5 hk5 hbel htk hfi2
            go_upto_region 25 with fail
            generalize w5.alloc (.cells #[.int .i64 0, .int .i64 0] 40) = w6 at *
            go_wp2_with fail
            go_loopw [17] (fun iv wx => iv = .int .i64 0 ∧ FfB w wx pb mb sz bs (T + 1) (sOf bs T).length (.slice a6 ((aOf bs T).length + 1) c6) (3 * T)) (fun _ _ => 0)
            case atStart => exact ⟨rfl, HB5.out⟩
            case round =>
              obtain ⟨rfl, hBI⟩ := hrel
              have HBI := Lib.hid hBI
              clear hBI HB5
              go_wp2_with fail
              go_roundw
              case rel => exact ⟨T + 1, by omega, by go_num, by rw [HNS.out], by rw [HNS.out]; exact HBI.out.mono (by omega)⟩
              case measure => simp [intOf]; omega

      · obtain rfl : T = len := by omega
        obtain ⟨ρ, s, hlive, hfi, -, -⟩ := HJ.out.live
        obtain ⟨D, kk, hkK, hDo, hDc⟩ := HJ.out.map
        have HDC := Lib.hid hDc
        have HBEL := Lib.hid hlive.below
        have HIN := Lib.hid HJ.out.own.ints
        have HDO := Lib.hid hDo
        have hT80 : T ≤ 80 := by omega
        clear hlive hfi hkK hDo hDc HX
        go_wp2_with fail
        obtain ⟨na, hna⟩ : ∃ na, na = (aOf bs T).length := ⟨_, rfl⟩
        obtain ⟨ns, hns⟩ : ∃ ns, ns = (sOf bs T).length := ⟨_, rfl⟩
        have HNA := Lib.hid hna
        have HNSS := Lib.hid hns
        rw [← hna] at hal
        rw [← hns] at hsl
        rw [← hna] at HIN
        rw [← hns] at HDC
        rw [← hna, ← hns]
        clear hna hns
        go_loopw [19] (fun iv wx => ∃ k : Nat, k ≤ na ∧ iv = .int .i64 k ∧ wx.ownsMap Try.prog 3 (plainElem Try.prog 3) mb kk D ∧ IntsAt wx (.slice al na cl) ((aOf bs T).map fun (j : Nat) => (j : Int)) ∧ Below w.heap.size w wx) (fun iv _ => na - (intOf iv).toNat)
        case atStart => exact ⟨0, Nat.zero_le _, rfl, HDO.out, HIN.out, HBEL.out⟩
        case round =>
          obtain ⟨k, hk, rfl, hm, hin, hbw⟩ := hrel
          have HM := Lib.hid hm
          have HI := Lib.hid hin
          have HBW := Lib.hid hbw
          clear hm hin hbw HDO HIN HBEL HJ
          by_cases hka : k < na
          · obtain ⟨x, hx⟩ : ∃ x, (aOf bs T)[k]? = some x := ⟨_, List.getElem?_eq_getElem (by have := HNA.out; omega)⟩
            have hxT := (mem_aOf (List.mem_of_getElem? hx)).1
            obtain ⟨a0, n0, c0, hv0, hn0, hnc0, hcc0, hxx⟩ := HI.out
            rw [Value.slice.injEq] at hv0
            obtain ⟨rfl, rfl, rfl⟩ := hv0
            obtain ⟨vb, vo, rfl, hvb, hcell⟩ := hxx (by omega)
            have hck := hcell k hka
            have hgm : ((aOf bs T).map fun (j : Nat) => (j : Int)).getD k 0 = (x : Int) := by rw [List.getD_eq_getElem?_getD, List.getElem?_map, hx]; rfl
            rw [hgm] at hck
            have HH := Lib.hid (HDC.out.has k x hx)
            have HV := Lib.hid (HDC.out.val k x hx)
            have HWFX : Hid ((Lit.int .i64 (x : Int)).wf = true) := Lib.hid (wf_small _ (by omega))
            have hki : (0 : Int) ≤ (k : Int) ∧ (k : Int) < (na : Int) := by omega
            clear hcell hxx hnc0 hcc0 hn0 hgm hx hvb
            by_cases hkn : k < ns
            · have HHT : Hid (Maps.has D (.int .i64 (x : Int)) = true) := Lib.hid (by rw [HH.out]; exact decide_eq_true hkn)
              have HC : Hid (∀ c : Int, D.atKey (.int .i64 (x : Int)) (.lit (.int .i64 0)) = .lit (.int .i64 c) → c = (k : Int) + 1) := Lib.hid fun c hc => by
                rw [HV.out hkn] at hc
                injection hc with h1
                injection h1 with _ h1
                exact h1.symm
              have hkni : (k : Int) < (ns : Int) := by omega
              go_wp2_with (at_lookup; refine wpList_lookup_own_ok_int _ rfl _ _ 34 rfl 3 3 .i64 keyedP Try.underlying34 Try.underlying3 (zero_intQ _) mb kk D rfl HM.out _ _ rfl (keyOf_int_mk Try.underlying3 HWFX.out) ?_; intro c hat hwc; obtain rfl := HC.out c hat; rw [HHT.out]; clear hat hwc)
              go_roundw
              case rel => exact ⟨k + 1, by omega, by go_num, HM.out, HI.out, HBW.out⟩
              case measure => simp [intOf]; omega
            · have HHF : Hid (Maps.has D (.int .i64 (x : Int)) = false) := Lib.hid (by rw [HH.out]; exact decide_eq_false hkn)
              have hkni : ¬ (k : Int) < (ns : Int) := by omega
              go_wp2_with (at_lookup; refine wpList_lookup_own_ok_int _ rfl _ _ 34 rfl 3 3 .i64 keyedP Try.underlying34 Try.underlying3 (zero_intQ _) mb kk D rfl HM.out _ _ rfl (keyOf_int_mk Try.underlying3 HWFX.out) ?_; intro c hat hwc; rw [HHF.out]; clear hat hwc)
              go_roundw
              case rel => exact ⟨k + 1, by omega, by go_num, HM.out, HI.out, HBW.out⟩
              case measure => simp [intOf]; omega
          · obtain rfl : k = na := by omega
            have hki : ¬ (k : Int) < (k : Int) := by omega
            go_wp2_with fail
            go_ret
            exact ⟨rfl, HBW.out⟩
end Go.Proofs.Ytpehmghnfbkaaaa
