/-
  The laws' 'filled': a ring of so many of a list as it takes, and these.
-/
import Derived.Test.YthdckapgpibmiaaDoorRingI3
import Derived.Test.YthdckapgpibmiaaDoorOwnI
import Derived.Test.YthdckapgpibmiaaDoorPick
namespace Go.Proofs.YthdckapgpibmiaaDoor
open Go.RowKit

theorem take_min_succ (l : List Int) (k n : Nat) (hk : k < n) (hl : k < l.length) : l.take (min (k + 1) n) = l.take (min k n) ++ [l.getD k 0] := by
  rw [Nat.min_eq_left (by omega), Nat.min_eq_left (by omega), List.take_succ_eq_append_getElem hl, List.getD_eq_getElem?_getD, List.getElem?_eq_getElem hl]; rfl
theorem take_min_full (l : List Int) (k n : Nat) (hk : n ≤ k) : l.take (min (k + 1) n) = l.take (min k n) := by
  rw [Nat.min_eq_right (by omega), Nat.min_eq_right hk]

/-- A ring and the list of what is in it, in blocks of their own. -/
structure Ringed (w : World) (lo rb sb B n : Nat) (v : Value) (l u : List Int) : Prop where
  ring : RingL eI w rb sb n u
  own : OwnI w B v l
  lo1 : lo ≤ rb
  lo2 : lo ≤ sb
  hi1 : rb < B
  hi2 : sb < B
  size : B ≤ w.heap.size
theorem Ringed.two {w : World} {lo rb sb B n : Nat} {v : Value} {l u : List Int} (h : Ringed w lo rb sb B n v l u) : ∀ k, Two rb sb k → k < B := by
  intro k hk
  have := h.hi1
  have := h.hi2
  rcases hk with rfl | rfl <;> assumption
theorem Ringed.two' {w : World} {lo rb sb B n : Nat} {v : Value} {l u : List Int} (h : Ringed w lo rb sb B n v l u) : ∀ k, k < w.heap.size → Two rb sb k → lo ≤ k := by
  intro k _ hk
  have := h.lo1
  have := h.lo2
  rcases hk with rfl | rfl <;> assumption

theorem Ringed.step {w w' : World} {lo rb sb B n : Nat} {v : Value} {l u u' : List Int} (h : Ringed w lo rb sb B n v l u) (hr : RingL eI w' rb sb n u') (hk : Keeps (Two rb sb) w w') : Ringed w' lo rb sb B n v l u' :=
  ⟨hr, h.own.keeps hk (h.own.off h.two), h.lo1, h.lo2, h.hi1, h.hi2, Nat.le_trans h.size hk.size⟩
theorem Ringed.next {w w' : World} {lo rb sb B n : Nat} {v : Value} {l u : List Int} (h : Ringed w lo rb sb B n v l u) (hb : Below w.heap.size w w') : Ringed w' lo rb sb B n v l u :=
  ⟨h.ring.keeps (Keeps.of_new hb) (S := fun _ => False) (by simp) (by simp), h.own.keeps (Keeps.of_new hb) (S := fun _ => False) (fun _ _ e => e), h.lo1, h.lo2, h.hi1, h.hi2, Nat.le_trans h.size hb.size⟩

set_option maxRecDepth 100000 in
set_option maxHeartbeats 3200000 in
theorem filled_any (size : Int) (v : Value) (l : List Int) (w : World) (hv : IntsAt w v l) :
    Calls Tryd.prog 16 #[.int .i64 size, v] w fun e w' => ∃ rb sb B n vi, e = .returned (.tuple #[.pointer (some ⟨rb, 0, none⟩), vi]) ∧ n ≤ 64 ∧ Ringed w' w.heap.size rb sb B n vi (l.take n) (l.take n) ∧ Below w.heap.size w w' := by
  obtain ⟨ao, m, cap, rfl, hm, hmc, hcm, hx⟩ := hv
  unfold maxLen at hcm
  have HX := Lib.hid hx
  have HM := Lib.hid hm
  obtain ⟨i0, hi, hz0, hz1, hz2⟩ := info_parts info_int
  clear hx hm
  go_enter Tryd.func16, Tryd.ntmps16
  go_wp2_with fail
  refine (pick_any size 65 _ (by decide) (by decide)).mono ?_
  rintro e w1 ⟨n, hn, rfl, rfl⟩
  go_wp2_with fail
  refine (newI_ok w n (by omega)).mono ?_
  rintro e w1 ⟨rfl, hr1, hb1, hs1⟩
  have hs1' : w.heap.size + 2 ≤ w1.heap.size := by omega
  clear hs1
  go_wp2_with fail
  go_loopw [8, 9] (fun v i wr => ∃ k : Nat, k ≤ m ∧ i = .int .i64 k ∧ Ringed wr w.heap.size (w.heap.size + 1) w.heap.size (w.heap.size + 2) n v (l.take (min k n)) (l.take (min k n)) ∧ Below w.heap.size w wr) (fun _ i _ => m - (intOf i).toNat)
  case atStart =>
    refine ⟨0, Nat.zero_le _, rfl, ⟨?_, ?_, by omega, by omega, by omega, by omega, hs1'⟩, hb1⟩
    · rw [Nat.zero_min]; exact hr1
    · rw [Nat.zero_min]; exact ownI_nil _ _
  case round =>
    obtain ⟨k, hk, rfl, hR, hb⟩ := hrel
    have HR := Lib.hid hR
    have HB := Lib.hid hb
    clear hb1 hr1
    by_cases hkm : k < m
    · obtain ⟨b, o, rfl, hbl, hcell⟩ := HX.out (by omega)
      have hc := hcell k hkm
      rw [← hb.cell (p := ⟨b, o + k, none⟩) hbl] at hc
      have HBL := Lib.hid hbl
      have HXE : Hid (∀ h : k < n, l.take (min (k + 1) n) = l.take (min k n) ++ [l.getD k 0]) := Lib.hid fun h => take_min_succ l k n h (by have := HM.out; omega)
      have HXF : Hid (∀ h : n ≤ k, l.take (min (k + 1) n) = l.take (min k n)) := Lib.hid fun h => take_min_full l k n h
      have hlen : (l.take (min k n)).length = min k n := by rw [List.length_take]; have := HM.out; omega
      have HLEN := Lib.hid hlen
      clear hcell hlen
      generalize l.getD k 0 = x at *
      generalize l.take (min k n) = t at *
      by_cases hkn : k < n
      · clear hR hb
        go_wp2_with fail
        refine (lpushI_ok HR.out.ring (by rw [HLEN.out]; omega) x).mono ?_
        rintro e w2 ⟨rfl, hr2, hk2⟩
        have hb2 : Below w.heap.size w w2 := HB.out.trans (hk2.below HB.out.size HR.out.two')
        have hc2 := hc
        rw [← hk2.cell (p := ⟨b, o + k, none⟩) (Nat.lt_of_lt_of_le HBL.out HB.out.size) (fun e => by have := HR.out.two' b (Nat.lt_of_lt_of_le HBL.out HB.out.size) e; have := HBL.out; omega)] at hc2
        have HO2 := Lib.hid (HR.out.own.keeps hk2 (HR.out.own.off HR.out.two))
        have HR2 := Lib.hid hr2
        have HB2 := Lib.hid hb2
        have HLE : Hid (w.heap.size + 2 ≤ w2.heap.size) := Lib.hid (Nat.le_trans HR.out.size hk2.size)
        obtain ⟨ao2, cap2, hv2⟩ := HO2.out.slice
        subst hv2
        clear hr2 hk2 hb2 hc
        go_wp2_with (at_builtin; (refine wpList_append_own _ rfl _ _ 30 rfl (w.heap.size + 2) 3 i0 (.int .i64 0) 1 8 Tryd.underlying30 hi hz0 hz1 hz2 rfl (by decide) _ _ _ rfl (World.ownsRow.alloc HO2.out _) ⟨_, 0, none⟩ 1 1 [.int .i64 x] rfl rfl ?c1 ?c2 ?c3 ?c4 ?c5 ?_))
        case c1 => exact cell_one_new _ _ _
        case c2 => intro u hu; simp at hu; subst hu; rfl
        case c3 => unfold maxLen; rw [HLEN.out]; omega
        case c4 => rw [HLEN.out]; omega
        case c5 => have := HLE.out; simp; omega
        intro v' w3 hown' hgrow _
        have hk3 : Keeps (fun b => w.heap.size + 2 ≤ b) w2 w3 := keeps_append hgrow HO2.out.le
        have hO3 : OwnI w3 (w.heap.size + 2) v' (t ++ [x]) := OwnI.mk _ x rfl hown'
        obtain ⟨ao3, cap3, hv3⟩ := hO3.slice
        have HO3 := Lib.hid hO3
        have HK3 := Lib.hid hk3
        clear hown' hgrow hk3 hO3
        subst hv3
        go_wp2_with fail
        go_roundw
        case rel =>
          refine ⟨k + 1, by omega, by go_num, ⟨?_, ?_, by omega, by omega, by omega, by omega, Nat.le_trans HLE.out HK3.out.size⟩, HB2.out.trans (HK3.out.below HB2.out.size (fun k _ h => by omega))⟩
          · rw [HXE.out hkn]; exact HR2.out.keeps HK3.out (by omega) (by omega)
          · rw [HXE.out hkn]; exact HO3.out
        case measure => simp [intOf]; omega
      · clear hR hb
        go_wp2_with fail
        refine (lpushI_full HR.out.ring (by rw [HLEN.out]; omega) x).mono ?_
        rintro e w2 ⟨rfl, hr2, hk2⟩
        have HR2 := Lib.hid hr2
        have HK2 := Lib.hid hk2
        clear hr2 hk2
        go_wp2_with fail
        go_roundw
        case rel =>
          refine ⟨k + 1, by omega, by go_num, ⟨?_, ?_, by omega, by omega, by omega, by omega, Nat.le_trans HR.out.size HK2.out.size⟩, HB.out.trans (HK2.out.below HB.out.size HR.out.two')⟩
          · rw [HXF.out (by omega)]; exact HR2.out
          · rw [HXF.out (by omega)]; exact HR.out.own.keeps HK2.out (HR.out.own.off HR.out.two)
        case measure => simp [intOf]; omega
    · obtain rfl : k = m := by omega
      clear hR hb
      have htl : l.take (min k n) = l.take n := by
        have := HM.out
        rcases Nat.le_total k n with h | h
        · rw [Nat.min_eq_left h, List.take_of_length_le (by omega), List.take_of_length_le (by omega)]
        · rw [Nat.min_eq_right h]
      rw [htl] at HR
      clear htl
      go_wp2_with fail
      go_ret2
      exact ⟨_, _, _, n, _, rfl, by omega, HR.out, HB.out⟩
end Go.Proofs.YthdckapgpibmiaaDoor
