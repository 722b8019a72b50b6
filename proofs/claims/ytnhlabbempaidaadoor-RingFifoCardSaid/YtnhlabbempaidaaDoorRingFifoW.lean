/-
  The walk of the law RingFifo: what comes out is what went in, in that order, whenever it is taken out.
-/
import Derived.Test.YtnhlabbempaidaaDoorFilled
import Derived.Test.YtnhlabbempaidaaDoorRinged
import Derived.Test.YtnhlabbempaidaaDoorEqualI
import Derived.Test.YtnhlabbempaidaaDoorBools
namespace Go.Proofs.YtnhlabbempaidaaDoor
open Go.RowKit

/-- A ring, what went in, and what came out. -/
structure Fifo (w : World) (lo rb sb B n : Nat) (vi vg : Value) (I G U : List Int) : Prop where
  ring : RingL eI w rb sb n U
  oi : OwnI w B vi I
  og : OwnI w B vg G
  ap : ApartI vi vg
  lo1 : lo ≤ rb
  lo2 : lo ≤ sb
  hi1 : rb < B
  hi2 : sb < B
  size : B ≤ w.heap.size
  sum : I = G ++ U
section
variable {w w' : World} {lo rb sb B n : Nat} {vi vg : Value} {I G U : List Int}
theorem Fifo.two (h : Fifo w lo rb sb B n vi vg I G U) : ∀ k, Two rb sb k → k < B := by
  intro k hk
  have := h.hi1
  have := h.hi2
  rcases hk with rfl | rfl <;> assumption
theorem Fifo.two' (h : Fifo w lo rb sb B n vi vg I G U) : ∀ k, k < w.heap.size → Two rb sb k → lo ≤ k := by
  intro k _ hk
  have := h.lo1
  have := h.lo2
  rcases hk with rfl | rfl <;> assumption
theorem Fifo.lens (h : Fifo w lo rb sb B n vi vg I G U) : I.length = G.length + U.length := by rw [h.sum, List.length_append]
theorem Fifo.loB (h : Fifo w lo rb sb B n vi vg I G U) : lo ≤ B := by have := h.lo1; have := h.hi1; omega
/-- Nothing of it turns. -/
theorem Fifo.same (h : Fifo w lo rb sb B n vi vg I G U) (hr : RingL eI w' rb sb n U) (hk : Keeps (Two rb sb) w w') : Fifo w' lo rb sb B n vi vg I G U :=
  ⟨hr, h.oi.keeps hk (h.oi.off h.two), h.og.keeps hk (h.og.off h.two), h.ap, h.lo1, h.lo2, h.hi1, h.hi2, Nat.le_trans h.size hk.size, h.sum⟩
theorem Fifo.push {x : Int} (h : Fifo w lo rb sb B n vi vg I G U) {w2 : World} (hr : RingL eI w2 rb sb n (U ++ [x])) (hk : Keeps (Two rb sb) w w2) {vi' : Value} (hO : OwnI w' B vi' (I ++ [x]))
    (hk3 : Keeps (fun b => vi.ownBlock = some b) w2 w') (hn : ∀ k, vi'.ownBlock = some k → vi.ownBlock = some k ∨ w2.heap.size ≤ k) : Fifo w' lo rb sb B n vi' vg (I ++ [x]) G (U ++ [x]) := by
  have hg2 := h.og.keeps hk (h.og.off h.two)
  refine ⟨hr.keeps hk3 (fun e => ?_) (fun e => ?_), hO, hg2.keeps hk3 h.ap.off, h.ap.append hg2 hn, h.lo1, h.lo2, h.hi1, h.hi2, Nat.le_trans h.size (Nat.le_trans hk.size hk3.size), by rw [h.sum, List.append_assoc]⟩
  · have := h.oi.le _ e; have := h.hi1; omega
  · have := h.oi.le _ e; have := h.hi2; omega
theorem Fifo.pop {x : Int} (h : Fifo w lo rb sb B n vi vg I G (x :: U)) {w2 : World} (hr : RingL eI w2 rb sb n U) (hk : Keeps (Two rb sb) w w2) {vg' : Value} (hO : OwnI w' B vg' (G ++ [x]))
    (hk3 : Keeps (fun b => vg.ownBlock = some b) w2 w') (hn : ∀ k, vg'.ownBlock = some k → vg.ownBlock = some k ∨ w2.heap.size ≤ k) : Fifo w' lo rb sb B n vi vg' I (G ++ [x]) U := by
  have hi2 := h.oi.keeps hk (h.oi.off h.two)
  refine ⟨hr.keeps hk3 (fun e => ?_) (fun e => ?_), hi2.keeps hk3 h.ap.symm.off, hO, (h.ap.symm.append hi2 hn).symm, h.lo1, h.lo2, h.hi1, h.hi2, Nat.le_trans h.size (Nat.le_trans hk.size hk3.size), by rw [h.sum, List.append_assoc]; rfl⟩
  · have := h.og.le _ e; have := h.hi1; omega
  · have := h.og.le _ e; have := h.hi2; omega
end
/-- One thing out of the ring that has not been noted yet. -/
structure FifoP (w : World) (lo rb sb B n : Nat) (vi vg : Value) (I G : List Int) (y : Int) (U : List Int) : Prop where
  ring : RingL eI w rb sb n U
  oi : OwnI w B vi I
  og : OwnI w B vg G
  ap : ApartI vi vg
  lo1 : lo ≤ rb
  lo2 : lo ≤ sb
  hi1 : rb < B
  hi2 : sb < B
  size : B ≤ w.heap.size
  sum : I = G ++ y :: U
theorem Fifo.out {w w' : World} {lo rb sb B n : Nat} {vi vg : Value} {I G U : List Int} {y : Int} (h : Fifo w lo rb sb B n vi vg I G (y :: U)) (hr : RingL eI w' rb sb n U) (hk : Keeps (Two rb sb) w w') : FifoP w' lo rb sb B n vi vg I G y U :=
  ⟨hr, h.oi.keeps hk (h.oi.off h.two), h.og.keeps hk (h.og.off h.two), h.ap, h.lo1, h.lo2, h.hi1, h.hi2, Nat.le_trans h.size hk.size, h.sum⟩
theorem FifoP.note {w w' : World} {lo rb sb B n : Nat} {vi vg : Value} {I G U : List Int} {y : Int} (h : FifoP w lo rb sb B n vi vg I G y U) {vg' : Value} (hO : OwnI w' B vg' (G ++ [y]))
    (hk3 : Keeps (fun b => vg.ownBlock = some b) w w') (hn : ∀ k, vg'.ownBlock = some k → vg.ownBlock = some k ∨ w.heap.size ≤ k) : Fifo w' lo rb sb B n vi vg' I (G ++ [y]) U := by
  refine ⟨h.ring.keeps hk3 (fun e => ?_) (fun e => ?_), h.oi.keeps hk3 h.ap.symm.off, hO, (h.ap.symm.append h.oi hn).symm, h.lo1, h.lo2, h.hi1, h.hi2, Nat.le_trans h.size hk3.size, by rw [h.sum, List.append_assoc]; rfl⟩
  · have := h.og.le _ e; have := h.hi1; omega
  · have := h.og.le _ e; have := h.hi2; omega
/-- Behind a Pop: something came out, or nothing was there. -/
def Popped (wr : World) (lo rb sb B n : Nat) (vi vg nv ev : Value) (I : List Int) : Prop :=
  (∃ y G U, nv = eI y ∧ ev = .nilIface ∧ FifoP wr lo rb sb B n vi vg I G y U) ∨ (nv = eI 0 ∧ ev = .iface 29 (.int .i64 8) ∧ Fifo wr lo rb sb B n vi vg I I [])
/-- How many a slice has. -/
def lenOf : Value → Nat | .slice _ n _ => n | _ => 0
theorem below_drewI {B : Nat} {a w : World} (h : Below B a w) (n : Nat) : Below B a (w.drewN n) := ⟨h.os, h.tape, h.output, h.size, h.block⟩
theorem below_two {S : Nat → Prop} {w0 w w' : World} {lo : Nat} (hb : Below lo w0 w) (hk : Keeps S w w') (hs : ∀ k, k < w.heap.size → S k → lo ≤ k) (hl : lo ≤ w.heap.size) : Below lo w0 w' := hb.trans (hk.below hl hs)

set_option maxRecDepth 100000 in
set_option maxHeartbeats 3200000 in
theorem ringFifo_any (size : Int) (v : Value) (l : List Int) (u : Value) (ol : List Bool) (w : World) (_h1 : -9223372036854775808 ≤ size) (_h2 : size ≤ 9223372036854775807) (hv : NumsAt .i64 w v l) (hu : BoolsAt w u ol) (hE : ErrT w) :
    Calls Tryd.prog 4 #[.int .i64 size, v, u] w fun e w' => e = .returned (.bool true) ∧ Below w.heap.size w w' := by
  have HE := Lib.hid hE
  obtain ⟨ao, m, cap, rfl, hm, hmc, hcm, hx, -⟩ := hv
  obtain ⟨aq, mo, cap2, rfl, hmo, hmoc, hcmo, hxo⟩ := hu
  unfold maxLen at hcm hcmo
  clear hE
  by_cases hbig : 200 < m ∨ 200 < mo
  · by_cases hb1 : 200 < m
    · have h1i : (200 : Int) < (m : Int) := by omega
      go_enter Tryd.func4, Tryd.ntmps4
      go_wp2_with fail
      refine (ringed_any _ HE.out).mono ?_
      rintro e w1 ⟨rfl, hb1⟩
      go_wp2_with fail
      go_ret
      exact ⟨rfl, hb1⟩
    · have h1i : ¬ (200 : Int) < (m : Int) := by omega
      have h2i : (200 : Int) < (mo : Int) := by omega
      go_enter Tryd.func4, Tryd.ntmps4
      go_wp2_with fail
      refine (ringed_any _ HE.out).mono ?_
      rintro e w1 ⟨rfl, hb1⟩
      go_wp2_with fail
      go_ret
      exact ⟨rfl, hb1⟩
  · have h1i : ¬ (200 : Int) < (m : Int) := by omega
    have h2i : ¬ (200 : Int) < (mo : Int) := by omega
    have hm200 : m ≤ 200 := by omega
    have HX := Lib.hid hx
    have HXO := Lib.hid hxo
    have HM := Lib.hid hm
    have HMO := Lib.hid hmo
    clear hx hxo hm hmo hbig
    go_enter Tryd.func4, Tryd.ntmps4
    go_wp2_with fail
    refine (ringed_any _ HE.out).mono ?_
    rintro e w1 ⟨rfl, hb1⟩
    have HB1 := Lib.hid hb1
    clear hb1
    go_wp2_with fail
    refine (filled_any size _ [] _ (intsAt_nil _)).mono ?_
    rintro e w2 ⟨rb, sb, B, n, vi, rfl, hn, hR, hb2⟩
    have HB2 : Hid (Below w.heap.size w w2) := Lib.hid (HB1.out.trans (hb2.mono HB1.out.size))
    rw [List.take_nil] at hR
    have HF : Hid (Fifo w2 w.heap.size rb sb B n (.slice none 0 0) (.slice none 0 0) [] [] []) := Lib.hid ⟨hR.ring, ownI_nil _ _, ownI_nil _ _, apartI_nil _, Nat.le_trans HB1.out.size hR.lo1, Nat.le_trans HB1.out.size hR.lo2, hR.hi1, hR.hi2, hR.size, rfl⟩
    clear hR hb2
    go_wp2_with fail
    go_loopw [9, 10, 11] (fun vi vg i wr => ∃ (k : Nat) (I G U : List Int), k ≤ m ∧ i = .int .i64 k ∧ I.length ≤ k ∧ Fifo wr w.heap.size rb sb B n vi vg I G U ∧ Below w.heap.size w wr) (fun _ _ i _ => m - (intOf i).toNat)
    case atStart => exact ⟨0, [], [], [], Nat.zero_le _, rfl, Nat.le_refl _, HF.out, HB2.out⟩
    case round =>
      obtain ⟨k, I, G, U, hk, rfl, hIk, hF, hb⟩ := hrel
      clear HF HB2
      have HF := Lib.hid hF
      have HB := Lib.hid hb
      obtain ⟨ai, ci, hvi⟩ := hF.oi.slice
      obtain ⟨ag, cg, hvg⟩ := hF.og.slice
      have hle1 : I.length ≤ G.length + U.length := Nat.le_of_eq hF.lens
      have hle2 : G.length + U.length ≤ I.length := Nat.le_of_eq hF.lens.symm
      have hUn := hF.ring.le
      subst hvi hvg
      clear hF hb
      by_cases hkm : k < m
      · obtain ⟨b, o, rfl, hbl, hcell⟩ := HX.out (by omega)
        have hc := hcell k hkm
        rw [← HB.out.cell (p := ⟨b, o + k, none⟩) hbl] at hc
        have HBL := Lib.hid hbl
        clear hcell
        generalize l.getD k 0 = x at *
        -- which way the test goes: taken out or not
        have hq : (k < mo ∧ ∃ bq oq, aq = some ⟨bq, oq, none⟩ ∧ bq < w.heap.size ∧ w.cell? ⟨bq, oq + k, none⟩ = some (.bool (ol.getD k false))) ∨ ¬ k < mo := by
          by_cases hko : k < mo
          · obtain ⟨bq, oq, e, hblq, hcellq⟩ := HXO.out (by omega)
            exact Or.inl ⟨hko, bq, oq, e, hblq, hcellq k hko⟩
          · exact Or.inr hko
        generalize ol.getD k false = q at *
        rcases hq with ⟨hko, bq, oq, rfl, hblq, hcq0⟩ | hko
        · have HCQ : Hid (∀ W : World, Below w.heap.size w W → W.cell? ⟨bq, oq + k, none⟩ = some (.bool q)) := Lib.hid fun W h => by rw [h.cell (p := ⟨bq, oq + k, none⟩) hblq]; exact hcq0
          have hki : (0 : Int) ≤ (k : Int) ∧ (k : Int) < (mo : Int) := by omega
          clear hcq0 hblq
          by_cases hUl : U.length < n
          · have HBC : Hid (∀ w3 : World, Keeps (Two rb sb) wr w3 → w3.cell? ⟨b, o + k, none⟩ = some (.int .i64 x)) := Lib.hid fun w3 hk3 => by
              rw [hk3.cell (p := ⟨b, o + k, none⟩) (Nat.lt_of_lt_of_le HBL.out HB.out.size) (fun e => by have := HF.out.two' b (Nat.lt_of_lt_of_le HBL.out HB.out.size) e; have := HBL.out; omega)]; exact hc
            go_wp2_with fail
            refine (lpushI_ok HF.out.ring hUl x).mono ?_
            rintro e w3 ⟨rfl, hr3, hk3⟩
            have HB3 : Hid (Below w.heap.size w w3) := Lib.hid (below_two HB.out hk3 HF.out.two' HB.out.size)
            have hc3 := HBC.out w3 hk3
            have HO3 := Lib.hid (HF.out.oi.keeps hk3 (HF.out.oi.off HF.out.two))
            have HR3 := Lib.hid hr3
            have HK3 := Lib.hid hk3
            clear hr3 hk3 hc
            cases q with
            | true =>
              go_wp2_with (at_builtin; refine wpList_appendI rfl _ _ rfl _ B _ I x HO3.out rfl rfl (by omega) (Nat.le_trans HF.out.size HK3.out.size) ?_; intro ao4 cap4 w4 hO4 hK4 hN4; have HB4 : Hid (Below w.heap.size w w4) := Lib.hid (below_two HB3.out hK4 (fun k _ e => Nat.le_trans HF.out.loB (HO3.out.le k e)) HB3.out.size); have HF4 := Lib.hid (HF.out.push HR3.out HK3.out hO4 hK4 hN4); have hcq := HCQ.out w4 HB4.out; clear hO4 hK4 hN4)
              obtain ⟨y, U5, hU5⟩ : ∃ y U5, U ++ [x] = y :: U5 := by cases U with | nil => exact ⟨x, [], rfl⟩ | cons y U5 => exact ⟨y, U5 ++ [x], rfl⟩
              rw [hU5] at HF4
              clear hU5
              refine (lpopI_ok HF4.out.ring).mono ?_
              rintro e w5 ⟨rfl, hr5, hk5⟩
              have HB5 : Hid (Below w.heap.size w w5) := Lib.hid (below_two HB4.out hk5 HF4.out.two' HB4.out.size)
              have HO5 := Lib.hid (HF4.out.og.keeps hk5 (HF4.out.og.off HF4.out.two))
              have HR5 := Lib.hid hr5
              have HK5 := Lib.hid hk5
              have HL5 := Lib.hid HF4.out.lens
              clear hr5 hk5
              go_wp2_with (at_builtin; refine wpList_appendI rfl _ _ rfl _ B _ G y HO5.out rfl rfl (by omega) (Nat.le_trans HF4.out.size HK5.out.size) ?_; intro ao6 cap6 w6 hO6 hK6 hN6; have HB6 : Hid (Below w.heap.size w w6) := Lib.hid (below_two HB5.out hK6 (fun k _ e => Nat.le_trans HF4.out.loB (HO5.out.le k e)) HB5.out.size); have HF6 := Lib.hid (HF4.out.pop HR5.out HK5.out hO6 hK6 hN6); clear hO6 hK6 hN6)
              have hL1 : I.length + 1 ≤ G.length + 1 + U5.length := by have := HL5.out; simp at this; omega
              have hL2 : G.length + 1 + U5.length ≤ I.length + 1 := by have := HL5.out; simp at this; omega
              have hUn6 := HF6.out.ring.le
              refine (llenI HF6.out.ring).mono ?_
              rintro e w9 ⟨rfl, rfl⟩
              go_wp2_with fail
              refine (llenI HF6.out.ring).mono ?_
              rintro e w9 ⟨rfl, rfl⟩
              go_wp2_with fail
              refine (lsizeI HF6.out.ring).mono ?_
              rintro e w9 ⟨rfl, rfl⟩
              go_wp2_with fail
              go_roundw
              case rel => exact ⟨k + 1, _, _, _, by omega, by go_num, by (try simp only [List.length_append, List.length_cons, List.length_nil]); omega, HF6.out, HB6.out⟩
              case measure => simp [intOf]; omega
            | false =>
              go_wp2_with (at_builtin; refine wpList_appendI rfl _ _ rfl _ B _ I x HO3.out rfl rfl (by omega) (Nat.le_trans HF.out.size HK3.out.size) ?_; intro ao4 cap4 w4 hO4 hK4 hN4; have HB4 : Hid (Below w.heap.size w w4) := Lib.hid (below_two HB3.out hK4 (fun k _ e => Nat.le_trans HF.out.loB (HO3.out.le k e)) HB3.out.size); have HF4 := Lib.hid (HF.out.push HR3.out HK3.out hO4 hK4 hN4); have hcq := HCQ.out w4 HB4.out; clear hO4 hK4 hN4)
              refine (llenI HF4.out.ring).mono ?_
              rintro e w9 ⟨rfl, rfl⟩
              go_wp2_with fail
              refine (llenI HF4.out.ring).mono ?_
              rintro e w9 ⟨rfl, rfl⟩
              go_wp2_with fail
              refine (lsizeI HF4.out.ring).mono ?_
              rintro e w9 ⟨rfl, rfl⟩
              go_wp2_with fail
              go_roundw
              case rel => exact ⟨k + 1, _, _, _, by omega, by go_num, by (try simp only [List.length_append, List.length_cons, List.length_nil]); omega, HF4.out, HB4.out⟩
              case measure => simp [intOf]; omega
          · cases q with
            | true =>
              have hUe : U.length = n := by omega
              have HUE := Lib.hid hUe
              clear hUe
              go_wp2_with fail
              refine (lpushI_full HF.out.ring HUE.out x).mono ?_
              rintro e w4 ⟨rfl, hr4, hk4⟩
              have hcq := HCQ.out w4 (below_two HB.out hk4 HF.out.two' HB.out.size)
              have HF4 := Lib.hid (HF.out.same hr4 hk4)
              have HB4 : Hid (Below w.heap.size w w4) := Lib.hid (below_two HB.out hk4 HF.out.two' HB.out.size)
              clear hr4 hk4
              cases U with
              | nil =>
                simp only [List.length_nil] at hle1 hle2 hUn hUl
                go_wp2_with fail
                refine (lpopI_none HF4.out.ring).mono ?_
                rintro e w5 ⟨rfl, hr5, hk5⟩
                have HF5 := Lib.hid (HF4.out.same hr5 hk5)
                have HB5 : Hid (Below w.heap.size w w5) := Lib.hid (below_two HB4.out hk5 HF4.out.two' HB4.out.size)
                clear hr5 hk5
                go_wp2_with fail
                refine (llenI HF5.out.ring).mono ?_
                rintro e w9 ⟨rfl, rfl⟩
                go_wp2_with fail
                refine (llenI HF5.out.ring).mono ?_
                rintro e w9 ⟨rfl, rfl⟩
                go_wp2_with fail
                refine (lsizeI HF5.out.ring).mono ?_
                rintro e w9 ⟨rfl, rfl⟩
                go_wp2_with fail
                go_roundw
                case rel => exact ⟨k + 1, _, _, _, by omega, by go_num, by (try simp only [List.length_append, List.length_cons, List.length_nil]); omega, HF5.out, HB5.out⟩
                case measure => simp [intOf]; omega
              | cons y U5 =>
                go_wp2_with fail
                refine (lpopI_ok HF4.out.ring).mono ?_
                rintro e w5 ⟨rfl, hr5, hk5⟩
                have HB5 : Hid (Below w.heap.size w w5) := Lib.hid (below_two HB4.out hk5 HF4.out.two' HB4.out.size)
                have HO5 := Lib.hid (HF4.out.og.keeps hk5 (HF4.out.og.off HF4.out.two))
                have HR5 := Lib.hid hr5
                have HK5 := Lib.hid hk5
                have HL5 := Lib.hid HF4.out.lens
                clear hr5 hk5
                go_wp2_with (at_builtin; refine wpList_appendI rfl _ _ rfl _ B _ G y HO5.out rfl rfl (by omega) (Nat.le_trans HF4.out.size HK5.out.size) ?_; intro ao6 cap6 w6 hO6 hK6 hN6; have HB6 : Hid (Below w.heap.size w w6) := Lib.hid (below_two HB5.out hK6 (fun k _ e => Nat.le_trans HF4.out.loB (HO5.out.le k e)) HB5.out.size); have HF6 := Lib.hid (HF4.out.pop HR5.out HK5.out hO6 hK6 hN6); clear hO6 hK6 hN6)
                have hL1 : I.length ≤ G.length + 1 + U5.length := by have := HL5.out; simp at this; omega
                have hL2 : G.length + 1 + U5.length ≤ I.length := by have := HL5.out; simp at this; omega
                have hUn6 := HF6.out.ring.le
                refine (llenI HF6.out.ring).mono ?_
                rintro e w9 ⟨rfl, rfl⟩
                go_wp2_with fail
                refine (llenI HF6.out.ring).mono ?_
                rintro e w9 ⟨rfl, rfl⟩
                go_wp2_with fail
                refine (lsizeI HF6.out.ring).mono ?_
                rintro e w9 ⟨rfl, rfl⟩
                go_wp2_with fail
                go_roundw
                case rel => exact ⟨k + 1, _, _, _, by omega, by go_num, by (try simp only [List.length_append, List.length_cons, List.length_nil]); omega, HF6.out, HB6.out⟩
                case measure => simp [intOf]; omega
            | false =>
              have hUe : U.length = n := by omega
              have HUE := Lib.hid hUe
              clear hUe
              go_wp2_with fail
              refine (lpushI_full HF.out.ring HUE.out x).mono ?_
              rintro e w4 ⟨rfl, hr4, hk4⟩
              have hcq := HCQ.out w4 (below_two HB.out hk4 HF.out.two' HB.out.size)
              have HF4 := Lib.hid (HF.out.same hr4 hk4)
              have HB4 : Hid (Below w.heap.size w w4) := Lib.hid (below_two HB.out hk4 HF.out.two' HB.out.size)
              clear hr4 hk4
              go_wp2_with fail
              refine (llenI HF4.out.ring).mono ?_
              rintro e w9 ⟨rfl, rfl⟩
              go_wp2_with fail
              refine (llenI HF4.out.ring).mono ?_
              rintro e w9 ⟨rfl, rfl⟩
              go_wp2_with fail
              refine (lsizeI HF4.out.ring).mono ?_
              rintro e w9 ⟨rfl, rfl⟩
              go_wp2_with fail
              go_roundw
              case rel => exact ⟨k + 1, _, _, _, by omega, by go_num, by (try simp only [List.length_append, List.length_cons, List.length_nil]); omega, HF4.out, HB4.out⟩
              case measure => simp [intOf]; omega
        · have hki : ¬ (k : Int) < (mo : Int) := by omega
          by_cases hUl : U.length < n
          · have HBC : Hid (∀ w3 : World, Keeps (Two rb sb) wr w3 → w3.cell? ⟨b, o + k, none⟩ = some (.int .i64 x)) := Lib.hid fun w3 hk3 => by
              rw [hk3.cell (p := ⟨b, o + k, none⟩) (Nat.lt_of_lt_of_le HBL.out HB.out.size) (fun e => by have := HF.out.two' b (Nat.lt_of_lt_of_le HBL.out HB.out.size) e; have := HBL.out; omega)]; exact hc
            go_wp2_with fail
            refine (lpushI_ok HF.out.ring hUl x).mono ?_
            rintro e w3 ⟨rfl, hr3, hk3⟩
            have HB3 : Hid (Below w.heap.size w w3) := Lib.hid (below_two HB.out hk3 HF.out.two' HB.out.size)
            have hc3 := HBC.out w3 hk3
            have HO3 := Lib.hid (HF.out.oi.keeps hk3 (HF.out.oi.off HF.out.two))
            have HR3 := Lib.hid hr3
            have HK3 := Lib.hid hk3
            clear hr3 hk3 hc
            go_wp2_with (at_builtin; refine wpList_appendI rfl _ _ rfl _ B _ I x HO3.out rfl rfl (by omega) (Nat.le_trans HF.out.size HK3.out.size) ?_; intro ao4 cap4 w4 hO4 hK4 hN4; have HB4 : Hid (Below w.heap.size w w4) := Lib.hid (below_two HB3.out hK4 (fun k _ e => Nat.le_trans HF.out.loB (HO3.out.le k e)) HB3.out.size); have HF4 := Lib.hid (HF.out.push HR3.out HK3.out hO4 hK4 hN4); clear hO4 hK4 hN4)
            refine (llenI HF4.out.ring).mono ?_
            rintro e w9 ⟨rfl, rfl⟩
            go_wp2_with fail
            refine (llenI HF4.out.ring).mono ?_
            rintro e w9 ⟨rfl, rfl⟩
            go_wp2_with fail
            refine (lsizeI HF4.out.ring).mono ?_
            rintro e w9 ⟨rfl, rfl⟩
            go_wp2_with fail
            go_roundw
            case rel => exact ⟨k + 1, _, _, _, by omega, by go_num, by (try simp only [List.length_append, List.length_cons, List.length_nil]); omega, HF4.out, HB4.out⟩
            case measure => simp [intOf]; omega
          · have hUe : U.length = n := by omega
            have HUE := Lib.hid hUe
            clear hUe
            go_wp2_with fail
            refine (lpushI_full HF.out.ring HUE.out x).mono ?_
            rintro e w4 ⟨rfl, hr4, hk4⟩
            have HF4 := Lib.hid (HF.out.same hr4 hk4)
            have HB4 : Hid (Below w.heap.size w w4) := Lib.hid (below_two HB.out hk4 HF.out.two' HB.out.size)
            clear hr4 hk4
            go_wp2_with fail
            refine (llenI HF4.out.ring).mono ?_
            rintro e w9 ⟨rfl, rfl⟩
            go_wp2_with fail
            refine (llenI HF4.out.ring).mono ?_
            rintro e w9 ⟨rfl, rfl⟩
            go_wp2_with fail
            refine (lsizeI HF4.out.ring).mono ?_
            rintro e w9 ⟨rfl, rfl⟩
            go_wp2_with fail
            go_roundw
            case rel => exact ⟨k + 1, _, _, _, by omega, by go_num, by (try simp only [List.length_append, List.length_cons, List.length_nil]); omega, HF4.out, HB4.out⟩
            case measure => simp [intOf]; omega
      · obtain rfl : k = m := by omega
        cases U with
        | nil =>
          go_wp2_with fail
          refine (lpopI_none HF.out.ring).mono ?_
          rintro e w5 ⟨rfl, hr5, hk5⟩
          have HB5 : Hid (Below w.heap.size w w5) := Lib.hid (below_two HB.out hk5 HF.out.two' HB.out.size)
          have HE : Hid (G = I) := Lib.hid (by have := HF.out.sum; rw [List.append_nil] at this; exact this.symm)
          have HP : Hid (Popped w5 w.heap.size rb sb B n (.slice ai I.length ci) (.slice ag G.length cg) (eI 0) (.iface 29 (.int .i64 8)) I) := Lib.hid (Or.inr ⟨rfl, rfl, by have := HF.out.same hr5 hk5; rwa [HE.out] at this ⊢⟩)
          clear hr5 hk5
          go_wp2_with fail
          have HI : Hid (I.length ≤ 200) := Lib.hid (by omega)
          go_loopw [10, 14, 15] (fun vg nv ev wq => Popped wq w.heap.size rb sb B n (.slice ai I.length ci) vg nv ev I ∧ Below w.heap.size w wq) (fun vg _ _ _ => I.length + 1 - (lenOf vg))
          case atStart => exact ⟨HP.out, HB5.out⟩
          case round =>
            obtain ⟨hP, hb⟩ := hrel
            have HB := Lib.hid hb
            clear hb
            rcases hP with ⟨y, G, U, rfl, rfl, hF⟩ | ⟨rfl, rfl, hF⟩
            · obtain ⟨ag, cg, hvg⟩ := hF.og.slice
              have hlen : G.length + U.length + 1 ≤ I.length := by have := congrArg List.length hF.sum; simp at this; omega
              have HF := Lib.hid hF
              subst hvg
              clear hF
              go_wp2_with (at_builtin; refine wpList_appendI rfl _ _ rfl _ B _ G y HF.out.og rfl rfl (by have := HI.out; omega) HF.out.size ?_; intro ao6 cap6 w6 hO6 hK6 hN6; have HB6 : Hid (Below w.heap.size w w6) := Lib.hid (below_two HB.out hK6 (fun k _ e => by have := HF.out.og.le k e; have := HF.out.lo1; have := HF.out.hi1; omega) HB.out.size); have HF6 := Lib.hid (HF.out.note hO6 hK6 hN6); clear hO6 hK6 hN6)
              cases U with
              | nil =>
                refine (lpopI_none HF6.out.ring).mono ?_
                rintro e w7 ⟨rfl, hr7, hk7⟩
                have HF7 := Lib.hid (HF6.out.same hr7 hk7)
                have HB7 : Hid (Below w.heap.size w w7) := Lib.hid (below_two HB6.out hk7 HF6.out.two' HB6.out.size)
                have HE7 : Hid (I = G ++ [y]) := Lib.hid (by have := HF6.out.sum; rwa [List.append_nil] at this)
                clear hr7 hk7
                go_wp2_with fail
                go_roundw
                case rel => exact ⟨Or.inr ⟨rfl, rfl, by have := HF7.out; rwa [← HE7.out] at this⟩, HB7.out⟩
                case measure => simp [lenOf]; omega
              | cons z U' =>
                refine (lpopI_ok HF6.out.ring).mono ?_
                rintro e w7 ⟨rfl, hr7, hk7⟩
                have HF7 := Lib.hid (HF6.out.out hr7 hk7)
                have HB7 : Hid (Below w.heap.size w w7) := Lib.hid (below_two HB6.out hk7 HF6.out.two' HB6.out.size)
                clear hr7 hk7
                go_wp2_with fail
                go_roundw
                case rel => exact ⟨Or.inl ⟨z, _, U', rfl, rfl, HF7.out⟩, HB7.out⟩
                case measure => simp [lenOf]; omega
            · have HF := Lib.hid hF
              obtain ⟨ag, cg, hvg⟩ := hF.og.slice
              subst hvg
              clear hF
              go_wp2_with fail
              refine (equalI_any _ _ I _ HF.out.og.ints HF.out.oi.ints).mono ?_
              rintro e w9 ⟨rfl, q, rfl⟩
              go_wp2_with fail
              go_ret
              exact ⟨rfl, below_drewI HB.out _⟩
        | cons y U =>
          go_wp2_with fail
          refine (lpopI_ok HF.out.ring).mono ?_
          rintro e w5 ⟨rfl, hr5, hk5⟩
          have HB5 : Hid (Below w.heap.size w w5) := Lib.hid (below_two HB.out hk5 HF.out.two' HB.out.size)
          have HP : Hid (Popped w5 w.heap.size rb sb B n (.slice ai I.length ci) (.slice ag G.length cg) (eI y) .nilIface I) := Lib.hid (Or.inl ⟨y, G, U, rfl, rfl, HF.out.out hr5 hk5⟩)
          clear hr5 hk5
          go_wp2_with fail
          have HI : Hid (I.length ≤ 200) := Lib.hid (by omega)
          go_loopw [10, 14, 15] (fun vg nv ev wq => Popped wq w.heap.size rb sb B n (.slice ai I.length ci) vg nv ev I ∧ Below w.heap.size w wq) (fun vg _ _ _ => I.length + 1 - (lenOf vg))
          case atStart => exact ⟨HP.out, HB5.out⟩
          case round =>
            obtain ⟨hP, hb⟩ := hrel
            have HB := Lib.hid hb
            clear hb
            rcases hP with ⟨y, G, U, rfl, rfl, hF⟩ | ⟨rfl, rfl, hF⟩
            · obtain ⟨ag, cg, hvg⟩ := hF.og.slice
              have hlen : G.length + U.length + 1 ≤ I.length := by have := congrArg List.length hF.sum; simp at this; omega
              have HF := Lib.hid hF
              subst hvg
              clear hF
              go_wp2_with (at_builtin; refine wpList_appendI rfl _ _ rfl _ B _ G y HF.out.og rfl rfl (by have := HI.out; omega) HF.out.size ?_; intro ao6 cap6 w6 hO6 hK6 hN6; have HB6 : Hid (Below w.heap.size w w6) := Lib.hid (below_two HB.out hK6 (fun k _ e => by have := HF.out.og.le k e; have := HF.out.lo1; have := HF.out.hi1; omega) HB.out.size); have HF6 := Lib.hid (HF.out.note hO6 hK6 hN6); clear hO6 hK6 hN6)
              cases U with
              | nil =>
                refine (lpopI_none HF6.out.ring).mono ?_
                rintro e w7 ⟨rfl, hr7, hk7⟩
                have HF7 := Lib.hid (HF6.out.same hr7 hk7)
                have HB7 : Hid (Below w.heap.size w w7) := Lib.hid (below_two HB6.out hk7 HF6.out.two' HB6.out.size)
                have HE7 : Hid (I = G ++ [y]) := Lib.hid (by have := HF6.out.sum; rwa [List.append_nil] at this)
                clear hr7 hk7
                go_wp2_with fail
                go_roundw
                case rel => exact ⟨Or.inr ⟨rfl, rfl, by have := HF7.out; rwa [← HE7.out] at this⟩, HB7.out⟩
                case measure => simp [lenOf]; omega
              | cons z U' =>
                refine (lpopI_ok HF6.out.ring).mono ?_
                rintro e w7 ⟨rfl, hr7, hk7⟩
                have HF7 := Lib.hid (HF6.out.out hr7 hk7)
                have HB7 : Hid (Below w.heap.size w w7) := Lib.hid (below_two HB6.out hk7 HF6.out.two' HB6.out.size)
                clear hr7 hk7
                go_wp2_with fail
                go_roundw
                case rel => exact ⟨Or.inl ⟨z, _, U', rfl, rfl, HF7.out⟩, HB7.out⟩
                case measure => simp [lenOf]; omega
            · have HF := Lib.hid hF
              obtain ⟨ag, cg, hvg⟩ := hF.og.slice
              subst hvg
              clear hF
              go_wp2_with fail
              refine (equalI_any _ _ I _ HF.out.og.ints HF.out.oi.ints).mono ?_
              rintro e w9 ⟨rfl, q, rfl⟩
              go_wp2_with fail
              go_ret
              exact ⟨rfl, below_drewI HB.out _⟩
end Go.Proofs.YtnhlabbempaidaaDoor
