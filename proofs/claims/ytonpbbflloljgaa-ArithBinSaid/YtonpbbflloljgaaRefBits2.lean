/-
  The walks of the reference's bits, second part: turned, moved, times, less.
-/
import Derived.Test.YtonpbbflloljgaaRefBits
namespace Go.Proofs.Ytonpbbflloljgaa
open Go.RowKit

def midTurn (x : BitVec 64) (k i : Nat) : Bool := if i < k then !x.getLsbD i else x.getLsbD i
theorem midTurn_end (x : BitVec 64) (k : Nat) (h : 64 ≤ k) : arrV (midTurn x k) = bvV (~~~x) := arr_bv _ _ fun i hi => by
  unfold midTurn; rw [if_pos (by omega), BitVec.getLsbD_not]; simp [hi]
theorem midTurn_step (x : BitVec 64) (k : Nat) : (arrV (midTurn x k)).setIfInBounds k (.bool (!x.getLsbD k)) = arrV (midTurn x (k + 1)) := by
  refine arrV_set _ _ _ _ ?_ ?_
  · unfold midTurn; rw [if_pos (Nat.lt_succ_self k)]
  · intro i hi
    unfold midTurn
    by_cases hk : i < k
    · rw [if_pos hk, if_pos (by omega)]
    · rw [if_neg hk, if_neg (by omega)]

attribute [local go_sem ↓] Go.wp_at_zero Go.wp_at_succ wp_load_arr wp_store_arr in
set_option maxHeartbeats 1600000 in
set_option maxRecDepth 100000 in
theorem rturned_any (x : BitVec 64) (w : World) :
    Calls Try.prog 27 #[.agg (bvV x)] w fun e w' => e = .returned (.agg (bvV (-x))) ∧ Below w.heap.size w w' := by
  go_enter Try.func27, Try.ntmps27
  go_wp2_with fail
  go_loopw [4] (fun i wr => ∃ (k : Nat) (Z : Array Value), k ≤ 64 ∧ i = .int .i64 k ∧ Z.size = 64 ∧ wr.heap[w.heap.size]? = some (.cells (arrV (midTurn x k)) 54 (0, 0)) ∧ wr.heap[w.heap.size + 1]? = some (.cells Z 54 (0, 0)) ∧ Below w.heap.size w wr) (fun i _ => 64 - (intOf i).toNat)
  case atStart => exact ⟨0, _, by omega, rfl, rfl, by rw [show arrV (midTurn x 0) = bvV x from rfl]; exact heap_alloc2_old _ _ _, heap_alloc2_new _ _ _, ((Below.refl _ _).alloc (Nat.le_refl _) _).alloc (by simp) _⟩
  case round =>
    obtain ⟨k, Z, hk, rfl, hz, h0, h1, hb⟩ := hrel
    by_cases hlt : k < 64
    · have hc := cell_of_row wr w.heap.size k _ _ _ h0
      have hfr := frozen_of_row wr w.heap.size k _ _ h0
      rw [arrV_get _ k hlt] at hc
      rw [show midTurn x k k = x.getLsbD k by unfold midTurn; rw [if_neg (Nat.lt_irrefl k)]] at hc
      have H0 := Lib.hid h0
      have H1 := Lib.hid h1
      have HT := Lib.hid (midTurn_step x k)
      clear h0 h1
      obtain ⟨p, hp⟩ : ∃ p, p = x.getLsbD k := ⟨_, rfl⟩
      rw [← hp] at hc HT
      clear hp
      go_wp2_with fail
      go_roundw
      case rel =>
        refine ⟨k + 1, Z, by omega, by go_num, hz, ?_, ?_, hb.setCell (Nat.le_refl _) _⟩
        · rw [heap_setCell_same _ _ _ _ _ _ H0.out, HT.out]
        · rw [heap_setCell_other _ _ _ _ (by simp)]; exact H1.out
      case measure => simp [intOf]; omega
    · rw [midTurn_end x k (by omega)] at h0
      have a1 : rowOk wr.drew w.heap.size = true := rowOk_of (w := wr.drew) h0 (bvV_size _)
      have a2 : rowAt wr.drew w.heap.size = bvV (~~~x) := rowAt_of (w := wr.drew) h0
      have b0 : w.heap.size + 1 < wr.heap.size := (Array.getElem?_eq_some_iff.1 h1).1
      have H0 := Lib.hid h0
      have H1 := Lib.hid h1
      have HZ := Lib.hid hz
      clear h0 h1 hz
      go_wp2_with fail
      go_region_with (first | (go_at_call 24; refine (cells_any 1 _).mono ?_; rintro e w1 ⟨rfl, hb1⟩; have c0 := (hb1.block w.heap.size (by simp; omega)).trans H0.out; have c1 : rowOk w1 w.heap.size = true := rowOk_of c0 (bvV_size _); have c2 : rowAt w1 w.heap.size = bvV (~~~x) := rowAt_of c0; have C1 := Lib.hid ((hb1.block (w.heap.size + 1) (by simp; omega)).trans H1.out); have b1 := hb1.size; clear c0) | (go_at_call 26; refine (plus_any _ _ _).mono ?_; rintro e w2 ⟨rfl, hb2⟩; have d0 := Lib.hid ((hb2.block (w.heap.size + 1) (by simp at b1; omega)).trans C1.out); have d1 : rowOk w2 (w.heap.size + 1) = true := rowOk_of d0.out HZ.out))
      all_goals
        go_wp2_with fail
        exact bodyPost_ret (results_cell_row rfl _ _ (w.heap.size + 1) 54 (bvV (~~~x + 1#64)) (0, 0) _ rfl (setRow_heap w2 (w.heap.size + 1) Z _ _ _ d0.out) Try.underlying54 rfl (info_arrV _)) rfl ⟨by rw [BitVec.neg_eq_not_add], ((hb.trans ((Below.refl _ _).drew.mono hb.size)).trans ((hb1.mono (show w.heap.size ≤ wr.drew.heap.size from hb.size)).trans (hb2.mono (Nat.le_trans hb.size b1)))).trans ⟨rfl, rfl, rfl, by simp, fun b hlt => setRow_other w2 (w.heap.size + 1) b _ (by omega)⟩⟩

def midMove (x : BitVec 64) (n k j : Nat) : Bool := decide (n ≤ j) && decide (j < k) && x.getLsbD (j - n)
theorem midMove_start (x : BitVec 64) (n : Nat) : arrV (midMove x n n) = arrV offV := arrV_ext _ _ fun i _ => by
  unfold midMove offV
  by_cases h : n ≤ i
  · rw [decide_eq_true h, decide_eq_false (by omega : ¬ i < n)]; rfl
  · rw [decide_eq_false h]; rfl
theorem midMove_end (x : BitVec 64) (n k : Nat) (h : 64 ≤ k) : arrV (midMove x n k) = bvV (x <<< n) := arr_bv _ _ fun i hi => by
  unfold midMove
  rw [BitVec.getLsbD_shiftLeft, decide_eq_true (show i < k by omega), decide_eq_true hi, Bool.and_true, Bool.true_and]
  by_cases hn : n ≤ i
  · rw [decide_eq_true hn, decide_eq_false (by omega : ¬ i < n)]; rfl
  · rw [decide_eq_false hn, decide_eq_true (by omega : i < n)]; rfl
theorem midMove_step (x : BitVec 64) (n k : Nat) (h : n ≤ k) : (arrV (midMove x n k)).setIfInBounds k (.bool (x.getLsbD (k - n))) = arrV (midMove x n (k + 1)) := by
  refine arrV_set _ _ _ _ ?_ ?_
  · unfold midMove; rw [decide_eq_true h, decide_eq_true (Nat.lt_succ_self k)]; rfl
  · intro i hi
    unfold midMove
    rw [show decide (i < k) = decide (i < k + 1) by rw [Bool.eq_iff_iff]; simp only [decide_eq_true_eq]; omega]

set_option maxHeartbeats 1600000 in
set_option maxRecDepth 100000 in
theorem moved_any (x : BitVec 64) (n : Nat) (w : World) (hn : n ≤ 63) :
    Calls Try.prog 39 #[.agg (bvV x), .int .i64 n] w fun e w' => e = .returned (.agg (bvV (x <<< n))) ∧ Below w.heap.size w w' := by
  go_enter Try.func39, Try.ntmps39
  go_wp2_with fail
  go_loopw [6] (fun i wr => ∃ (k : Nat) (Z : Array Value), n ≤ k ∧ k ≤ 64 ∧ i = .int .i64 k ∧ Z.size = 64 ∧ wr.heap[w.heap.size]? = some (.cells (bvV x) 54 (0, 0)) ∧ wr.heap[w.heap.size + 1]? = some (.cells Z 54 (0, 0)) ∧ wr.heap[w.heap.size + 1 + 1]? = some (.cells (arrV (midMove x n k)) 54 (0, 0)) ∧ Below w.heap.size w wr) (fun i _ => 64 - (intOf i).toNat)
  case atStart => exact ⟨n, _, Nat.le_refl _, by omega, rfl, rfl, at0 _ _ _ _, at1 _ _ _ _, by rw [midMove_start]; exact at2 _ _ _ _, (((Below.refl _ _).alloc (Nat.le_refl _) _).alloc (by simp) _).alloc (by simp; omega) _⟩
  case round =>
    obtain ⟨k, Z, hnk, hk, rfl, hz, h0, h1, h2, hb⟩ := hrel
    by_cases hlt : k < 64
    · have hc := cell_of_row wr w.heap.size (k - n) _ _ _ h0
      rw [bvV_get _ (k - n) (by omega)] at hc
      have hd := cell_of_row wr (w.heap.size + 1 + 1) k _ _ _ h2
      have hfr := frozen_of_row wr (w.heap.size + 1 + 1) k _ _ h2
      rw [arrV_get _ k hlt] at hd
      have H0 := Lib.hid h0
      have H1 := Lib.hid h1
      have H2 := Lib.hid h2
      have HT := Lib.hid (midMove_step x n k hnk)
      clear h0 h1 h2
      obtain ⟨p, hp⟩ : ∃ p, p = x.getLsbD (k - n) := ⟨_, rfl⟩
      rw [← hp] at hc HT
      clear hp
      obtain ⟨m, hm⟩ : ∃ m, m = k - n := ⟨_, rfl⟩
      rw [← hm] at hc
      have e1 : (k : Int) - (n : Int) = (m : Int) := by omega
      have e2 : (m : Int) < 64 := by omega
      have HM := Lib.hid hm
      clear hm
      go_wp2_with fail
      go_roundw
      case rel =>
        refine ⟨k + 1, Z, by omega, by omega, by go_num, hz, ?_, ?_, ?_, hb.setCell (show w.heap.size ≤ w.heap.size + 1 + 1 by omega) _⟩
        · rw [heap_setCell_other _ _ _ _ (by simp; omega)]; exact H0.out
        · rw [heap_setCell_other _ _ _ _ (by simp)]; exact H1.out
        · rw [heap_setCell_same _ _ _ _ _ _ H2.out, HT.out]
      case measure => simp [intOf]; omega
    · rw [midMove_end x n k (by omega)] at h2
      go_wp2_with (first | (refine wpList_load_row rfl 54 _ rfl (w.heap.size + 1 + 1) rfl 54 (bvV (x <<< n)) (0, 0) _ h2 Try.underlying54 rfl (info_arrV _) ?_) | (refine wpList_store_row rfl 54 _ _ rfl (w.heap.size + 1) (bvV (x <<< n)) rfl rfl 54 Z h1 (info_arrV _) (by rw [hz, bvV_size]) (arrV_one _) ?_))
      exact bodyPost_ret (results_cell_row rfl _ _ (w.heap.size + 1) 54 (bvV (x <<< n)) (0, 0) _ rfl (setRow_heap wr (w.heap.size + 1) Z _ _ _ h1) Try.underlying54 rfl (info_arrV _)) rfl ⟨rfl, hb.trans ⟨rfl, rfl, rfl, by simp, fun b hlt => setRow_other wr (w.heap.size + 1) b _ (by omega)⟩⟩

theorem div_bit (n k : Nat) : n / 2 ^ k = 2 * (n / 2 ^ (k + 1)) + n / 2 ^ k % 2 := by
  rw [Nat.pow_succ, ← Nat.div_div_eq_div_mul]; omega
theorem less_at (x y : BitVec 64) (k : Nat) (h : x.toNat / 2 ^ (k + 1) = y.toNat / 2 ^ (k + 1)) (hd : x.getLsbD k ≠ y.getLsbD k) : y.getLsbD k = decide (x.toNat < y.toNat) := by
  have h1 := div_bit x.toNat k
  have h2 := div_bit y.toNat k
  rw [BitVec.getLsbD, BitVec.getLsbD, Nat.testBit_eq_decide_div_mod_eq, Nat.testBit_eq_decide_div_mod_eq] at hd
  rw [BitVec.getLsbD, Nat.testBit_eq_decide_div_mod_eq]
  by_cases hy : y.toNat / 2 ^ k % 2 = 1
  · have hx : x.toNat / 2 ^ k % 2 = 0 := by
      rw [decide_eq_true hy] at hd
      by_cases hx : x.toNat / 2 ^ k % 2 = 1
      · rw [decide_eq_true hx] at hd; exact absurd rfl hd
      · omega
    rw [decide_eq_true hy]
    have : x.toNat < y.toNat := Nat.lt_of_div_lt_div (a := x.toNat) (b := y.toNat) (c := 2 ^ k) (by omega)
    rw [decide_eq_true this]
  · have hx : x.toNat / 2 ^ k % 2 = 1 := by
      rw [decide_eq_false hy] at hd
      by_cases hx : x.toNat / 2 ^ k % 2 = 1
      · exact hx
      · rw [decide_eq_false hx] at hd; exact absurd rfl hd
    rw [decide_eq_false hy]
    have : y.toNat < x.toNat := Nat.lt_of_div_lt_div (a := y.toNat) (b := x.toNat) (c := 2 ^ k) (by omega)
    rw [decide_eq_false (by omega)]
theorem same_at (x y : BitVec 64) (k : Nat) (h : x.toNat / 2 ^ (k + 1) = y.toNat / 2 ^ (k + 1)) (hd : x.getLsbD k = y.getLsbD k) : x.toNat / 2 ^ k = y.toNat / 2 ^ k := by
  have h1 := div_bit x.toNat k
  have h2 := div_bit y.toNat k
  rw [BitVec.getLsbD, BitVec.getLsbD, Nat.testBit_eq_decide_div_mod_eq, Nat.testBit_eq_decide_div_mod_eq] at hd
  have : x.toNat / 2 ^ k % 2 = 1 ↔ y.toNat / 2 ^ k % 2 = 1 := by
    rw [Bool.eq_iff_iff] at hd; simpa using hd
  omega

set_option maxHeartbeats 1600000 in
set_option maxRecDepth 100000 in
theorem less_any (x y : BitVec 64) (w : World) :
    Calls Try.prog 40 #[.agg (bvV x), .agg (bvV y)] w fun e w' => e = .returned (.bool (decide (x.toNat < y.toNat))) ∧ Below w.heap.size w w' := by
  obtain ⟨R, hR⟩ : ∃ R, R = decide (x.toNat < y.toNat) := ⟨_, rfl⟩
  rw [← hR]
  have HR := Lib.hid hR
  clear hR
  have rt : ∀ {b : Bool}, b = R → Ending.returned (.bool b) = .returned (.bool R) := fun h => by rw [h]
  go_enter Try.func40, Try.ntmps40
  go_wp2_with fail
  go_loopw [5] (fun i wr => ∃ k : Nat, k ≤ 64 ∧ i = .int .i64 ((k : Int) - 1) ∧ x.toNat / 2 ^ k = y.toNat / 2 ^ k ∧ wr.heap[w.heap.size]? = some (.cells (bvV x) 54 (0, 0)) ∧ wr.heap[w.heap.size + 1]? = some (.cells (bvV y) 54 (0, 0)) ∧ Below w.heap.size w wr) (fun i _ => (intOf i + 1).toNat)
  case atStart => exact ⟨64, by omega, rfl, by rw [Nat.div_eq_of_lt x.isLt, Nat.div_eq_of_lt y.isLt], heap_alloc2_old _ _ _, heap_alloc2_new _ _ _, ((Below.refl _ _).alloc (Nat.le_refl _) _).alloc (by simp) _⟩
  case round =>
    obtain ⟨k, hk, rfl, hs, h0, h1, hb⟩ := hrel
    by_cases hlt : 0 < k
    · obtain ⟨j, rfl⟩ : ∃ j, k = j + 1 := ⟨k - 1, by omega⟩
      have hc := cell_of_row wr w.heap.size j _ _ _ h0
      have hd := cell_of_row wr (w.heap.size + 1) j _ _ _ h1
      rw [bvV_get _ j (by omega)] at hc hd
      have H0 := Lib.hid h0
      have H1 := Lib.hid h1
      clear h0 h1
      rw [show ((j + 1 : Nat) : Int) - 1 = (j : Int) by omega]
      have e1 : (0 : Int) ≤ (j : Int) := by omega
      have e2 : (j : Int) < 64 := by omega
      cases hp : x.getLsbD j <;> cases hq : y.getLsbD j <;> rw [hp] at hc <;> rw [hq] at hd
      · have HS := Lib.hid (same_at x y j hs (by rw [hp, hq]))
        clear hs hp hq
        go_wp2_with fail
        go_quiet (fail)
        go_wp2_with fail
        go_roundw
        case rel => exact ⟨j, by omega, rfl, HS.out, H0.out, H1.out, hb.trans ⟨rfl, rfl, rfl, Nat.le_refl _, fun _ _ => rfl⟩⟩
        case measure => simp [intOf]
      · have HS := Lib.hid ((less_at x y j hs (by rw [hp, hq]; decide)).symm)
        rw [hq] at HS
        clear hs hp hq
        go_wp2_with fail
        go_quiet (fail)
        go_wp2_with fail
        go_ret
        exact ⟨rt (by rw [HR.out, HS.out]), hb.trans ⟨rfl, rfl, rfl, Nat.le_refl _, fun _ _ => rfl⟩⟩
      · have HS := Lib.hid ((less_at x y j hs (by rw [hp, hq]; decide)).symm)
        rw [hq] at HS
        clear hs hp hq
        go_wp2_with fail
        go_quiet (fail)
        go_wp2_with fail
        go_ret
        exact ⟨rt (by rw [HR.out, HS.out]), hb.trans ⟨rfl, rfl, rfl, Nat.le_refl _, fun _ _ => rfl⟩⟩
      · have HS := Lib.hid (same_at x y j hs (by rw [hp, hq]))
        clear hs hp hq
        go_wp2_with fail
        go_quiet (fail)
        go_wp2_with fail
        go_roundw
        case rel => exact ⟨j, by omega, rfl, HS.out, H0.out, H1.out, hb.trans ⟨rfl, rfl, rfl, Nat.le_refl _, fun _ _ => rfl⟩⟩
        case measure => simp [intOf]
    · obtain rfl : k = 0 := by omega
      have HS := Lib.hid (show x.toNat = y.toNat by rw [Nat.pow_zero, Nat.div_one, Nat.div_one] at hs; exact hs)
      clear hs
      go_wp2_with fail
      go_ret
      exact ⟨rt (by rw [HR.out, HS.out, decide_eq_false (Nat.lt_irrefl _)]), hb⟩
end Go.Proofs.Ytonpbbflloljgaa
