/-
  The walks of the reference's Bin: shifts.
-/
import Derived.Test.YtonpbbflloljgaaRefBin2
namespace Go.Proofs.Ytonpbbflloljgaa
open Go.RowKit

/-- A row of which k places are laid. -/
def midF (f : Nat → Bool) (k i : Nat) : Bool := decide (i < k) && f i
theorem midF_start (f : Nat → Bool) : arrV (midF f 0) = arrV offV := arrV_ext _ _ fun i _ => by
  unfold midF offV; rw [decide_eq_false (Nat.not_lt_zero i)]; rfl
theorem midF_step (f : Nat → Bool) (k : Nat) (b : Bool) (h : f k = b) : (arrV (midF f k)).setIfInBounds k (.bool b) = arrV (midF f (k + 1)) := by
  refine arrV_set _ _ _ _ ?_ ?_
  · unfold midF; rw [decide_eq_true (Nat.lt_succ_self k), h]; rfl
  · intro i hi
    unfold midF
    rw [show decide (i < k) = decide (i < k + 1) by rw [Bool.eq_iff_iff]; simp only [decide_eq_true_eq]; omega]
theorem midF_end (z : BitVec 64) (k : Nat) (hk : 64 ≤ k) : arrV (midF z.getLsbD k) = bvV z := arr_bv _ _ fun i hi => by
  unfold midF; rw [decide_eq_true (by omega)]; rfl
structure F3 (w : World) (bx b2 bo : Nat) (cx cy co : Array Value) (wr : World) : Prop where
  f : F2 w bx b2 cx cy wr
  ho : wr.heap[bo]? = some (.cells co 54 (0, 0))
  l : b2 < bo
theorem F3.start {w wr : World} {bx b2 : Nat} {cx cy co : Array Value} (h : F2 w bx b2 cx cy wr) : F3 w bx b2 wr.heap.size cx cy co (wr.alloc (.cells co 54)) :=
  ⟨h.next ((Below.refl _ _).alloc (Nat.le_refl _) _), heap_alloc_new _ _, (Array.getElem?_eq_some_iff.1 h.hy).1⟩
theorem F3.next {w wr w1 : World} {bx b2 bo : Nat} {cx cy co : Array Value} (h : F3 w bx b2 bo cx cy co wr) (hb : Below wr.heap.size wr w1) : F3 w bx b2 bo cx cy co w1 :=
  ⟨h.f.next hb, (hb.block _ (Array.getElem?_eq_some_iff.1 h.ho).1).trans h.ho, h.l⟩
theorem F3.seto {w wr : World} {bx b2 bo : Nat} {cx cy co : Array Value} (h : F3 w bx b2 bo cx cy co wr) (i : Nat) (v : Value) : F3 w bx b2 bo cx cy (co.setIfInBounds i v) (wr.setCell ⟨bo, i, none⟩ v) := by
  have := h.l; have := h.f.lt; have := h.f.lo
  refine ⟨⟨?_, ?_, h.f.below.trans ((below_set wr bo i v).mono (by omega)), h.f.lo, h.f.lt⟩, heap_setCell_same _ _ _ _ _ _ h.ho, h.l⟩
  · rw [heap_setCell_other _ _ _ _ (show bx ≠ bo by omega)]; exact h.f.hx
  · rw [heap_setCell_other _ _ _ _ (show b2 ≠ bo by omega)]; exact h.f.hy
theorem shl_bit_in (x : BitVec 64) (m j : Nat) (h : j + m < 64) : (x <<< m).getLsbD (j + m) = x.getLsbD j := by
  rw [BitVec.getLsbD_shiftLeft, decide_eq_true h, decide_eq_false (by omega : ¬ j + m < m), Nat.add_sub_cancel]; rfl
theorem shl_bit_out (x : BitVec 64) (m i : Nat) (h : i < m) : (x <<< m).getLsbD i = false := by
  rw [BitVec.getLsbD_shiftLeft, decide_eq_true h]; simp
theorem shr_bit_in (x : BitVec 64) (m i : Nat) (h : i + m < 64) : (x.sshiftRight m).getLsbD i = x.getLsbD (i + m) := by
  rw [BitVec.getLsbD_sshiftRight, decide_eq_false (by omega : ¬ 64 ≤ i), if_pos (by omega), Nat.add_comm]; rfl
theorem shr_bit_out (x : BitVec 64) (m i : Nat) (hi : i < 64) (h : ¬ i + m < 64) : (x.sshiftRight m).getLsbD i = x.getLsbD 63 := by
  rw [BitVec.getLsbD_sshiftRight, decide_eq_false (by omega : ¬ 64 ≤ i), if_neg (by omega)]
  rw [BitVec.msb_eq_getLsbD_last]; rfl

set_option maxHeartbeats 1600000 in
set_option maxRecDepth 100000 in
theorem rbin_9_neg (a b : Int) (w : World) (hb : b < 0) :
    Calls Try.prog 14 #[.int .i64 9, .int .i64 a, .int .i64 b] w fun e w' => e = .returned (.tuple #[.int .i64 0, .int .i64 4]) ∧ Below w.heap.size w w' := by
  go_enter Try.func14, Try.ntmps14
  go_wp2_with fail
  refine (cells_any a _).mono ?_
  rintro e w1 ⟨rfl, g1⟩
  go_wp2_with fail
  refine (cells_any b _).mono ?_
  rintro e w2 ⟨rfl, g2⟩
  go_wp2_with (first | (refine store_arr_any rfl _ _ rfl w2.heap.size _ rfl rfl 54 _ (heap_alloc2_old _ _ _) rfl ?_; intro W1 hr1 ho1 hb1 hsz; clear hsz; have h1 := Lib.hid ((ho1 (w2.heap.size + 1) (by omega)).trans (heap_alloc2_new _ _ _)); have R1 := Lib.hid hr1; clear ho1 hr1) | (refine store_arr_any rfl _ _ rfl (w2.heap.size + 1) _ rfl rfl 54 _ h1.out rfl ?_; intro W2 hr2 ho2 hb2 hsz; clear hsz; have hF : F2 w w2.heap.size (w2.heap.size + 1) (bvV (B64 a)) (bvV (B64 b)) W2 := f2_start g1 g2 R1.out hb1 hr2 ho2 hb2; have F := Lib.hid hF; clear hr2 ho2 hb2 hF R1 h1 hb1))
  go_ret2
  exact ⟨rfl, F.out.below⟩

set_option maxHeartbeats 1600000 in
set_option maxRecDepth 100000 in
theorem rbin_10_neg (a b : Int) (w : World) (hb : b < 0) :
    Calls Try.prog 14 #[.int .i64 10, .int .i64 a, .int .i64 b] w fun e w' => e = .returned (.tuple #[.int .i64 0, .int .i64 4]) ∧ Below w.heap.size w w' := by
  go_enter Try.func14, Try.ntmps14
  go_wp2_with fail
  refine (cells_any a _).mono ?_
  rintro e w1 ⟨rfl, g1⟩
  go_wp2_with fail
  refine (cells_any b _).mono ?_
  rintro e w2 ⟨rfl, g2⟩
  go_wp2_with (first | (refine store_arr_any rfl _ _ rfl w2.heap.size _ rfl rfl 54 _ (heap_alloc2_old _ _ _) rfl ?_; intro W1 hr1 ho1 hb1 hsz; clear hsz; have h1 := Lib.hid ((ho1 (w2.heap.size + 1) (by omega)).trans (heap_alloc2_new _ _ _)); have R1 := Lib.hid hr1; clear ho1 hr1) | (refine store_arr_any rfl _ _ rfl (w2.heap.size + 1) _ rfl rfl 54 _ h1.out rfl ?_; intro W2 hr2 ho2 hb2 hsz; clear hsz; have hF : F2 w w2.heap.size (w2.heap.size + 1) (bvV (B64 a)) (bvV (B64 b)) W2 := f2_start g1 g2 R1.out hb1 hr2 ho2 hb2; have F := Lib.hid hF; clear hr2 ho2 hb2 hF R1 h1 hb1))
  go_ret2
  exact ⟨rfl, F.out.below⟩

set_option maxHeartbeats 3200000 in
set_option maxRecDepth 100000 in
theorem rbin_9_small (a : Int) (n : Nat) (w : World) (n0 : Int) (hn : n ≤ 64) (hz : (B64 a <<< n).toInt = n0) :
    Calls Try.prog 14 #[.int .i64 9, .int .i64 a, .int .i64 (n : Int)] w fun e w' => e = .returned (.tuple #[.int .i64 n0, .int .i64 0]) ∧ Below w.heap.size w w' := by
  have HS := Lib.hid hz
  clear hz
  have hn0 : 0 ≤ (n : Int) := by omega
  go_enter Try.func14, Try.ntmps14
  go_wp2_with fail
  refine (cells_any a _).mono ?_
  rintro e w1 ⟨rfl, g1⟩
  go_wp2_with fail
  refine (cells_any (n : Int) _).mono ?_
  rintro e w2 ⟨rfl, g2⟩
  go_wp2_with (first | (refine store_arr_any rfl _ _ rfl w2.heap.size _ rfl rfl 54 _ (heap_alloc2_old _ _ _) rfl ?_; intro W1 hr1 ho1 hb1 hsz; clear hsz; have h1 := Lib.hid ((ho1 (w2.heap.size + 1) (by omega)).trans (heap_alloc2_new _ _ _)); have R1 := Lib.hid hr1; clear ho1 hr1) | (refine store_arr_any rfl _ _ rfl (w2.heap.size + 1) _ rfl rfl 54 _ h1.out rfl ?_; intro W2 hr2 ho2 hb2 hsz; clear hsz; have hF : F2 w w2.heap.size (w2.heap.size + 1) (bvV (B64 a)) (bvV (B64 (n : Int))) W2 := f2_start g1 g2 R1.out hb1 hr2 ho2 hb2; have F := Lib.hid hF; clear hr2 ho2 hb2 hF R1 h1 hb1))
  have hF3 : F3 w w2.heap.size (w2.heap.size + 1) W2.heap.size (bvV (B64 a)) (bvV (B64 (n : Int))) (arrV offV) (W2.alloc (.cells (arrV offV) 54)) := F3.start F.out
  rw [arr_zero] at hF3
  have HF0 := Lib.hid hF3
  clear hF3 F
  generalize hbx : w2.heap.size = bx at *
  generalize hb2 : bx + 1 = b2 at *
  generalize hbo : W2.heap.size = bo at *
  clear hbx hb2 hbo
  go_loopw [104] (fun i wr => ∃ k : Nat, k ≤ 64 ∧ i = .int .i64 k ∧ F3 w bx b2 bo (bvV (B64 a)) (bvV (B64 (n : Int))) (arrV (midF (B64 a <<< n).getLsbD k)) wr) (fun i _ => 64 - (intOf i).toNat)
  case atStart => exact ⟨0, by omega, rfl, by rw [midF_start, arr_zero]; exact HF0.out⟩
  case round =>
    obtain ⟨k, hk, rfl, hF⟩ := hrel
    clear HF0 g1 g2
    by_cases hlt : k < 64
    · obtain ⟨hd, hfr⟩ := spot hF.ho hlt
      have HF := Lib.hid hF
      have q1 : (k : Int) < 64 := by omega
      have HM := Lib.hid (fun (c : Bool) (h : (B64 a <<< n).getLsbD k = c) => midF_step (B64 a <<< n).getLsbD k c h)
      clear hF
      by_cases hin : n ≤ k
      · obtain ⟨j, rfl⟩ : ∃ j, k = j + n := ⟨k - n, by omega⟩
        have hc := (spot HF.out.f.hx (j := j) (by omega)).1
        have HB := Lib.hid (shl_bit_in (B64 a) n j hlt)
        have e1 : ((j + n : Nat) : Int) - (n : Int) = (j : Int) := by omega
        have e2 : 0 ≤ (j : Int) := by omega
        have e3 : (j : Int) < 64 := by omega
        cases hp : (B64 a).getLsbD j <;> rw [hp] at hc HB <;> clear hp
        all_goals
          go_wp2_with fail
          go_roundw
          case rel => exact ⟨j + n + 1, by omega, by go_num, by rw [← HM.out _ (HB.out)]; exact HF.out.seto _ _⟩
          case measure => simp [intOf]; omega
      · have HB := Lib.hid (shl_bit_out (B64 a) n k (by omega))
        have e1 : (k : Int) < (n : Int) := by omega
        have e2 : decide (n ≤ k) = false := decide_eq_false hin
        go_wp2_with fail
        go_roundw
        case rel => exact ⟨k + 1, by omega, by go_num, by rw [← HM.out _ (HB.out)]; exact HF.out.seto _ _⟩
        case measure => simp [intOf]; omega
    · rw [midF_end _ k (by omega)] at hF
      have G := Lib.hid hF
      clear hF
      go_wp2_with (first | (refine wpList_load_row rfl 54 _ rfl bo rfl 54 _ (0, 0) _ G.out.ho Try.underlying54 rfl (info_arrV _) ?_) | (go_at_call 25; refine (rnumber_c _ _ _ HS.out).mono ?_; rintro e v0 ⟨rfl, g0⟩; replace G := Lib.hid (G.out.next g0); clear g0))
      go_ret2
      exact ⟨rfl, G.out.f.below⟩

set_option maxHeartbeats 3200000 in
set_option maxRecDepth 100000 in
theorem rbin_9_big (a : Int) (n : Nat) (w : World) (n0 : Int) (hn : 64 < n) (hn2 : (n : Int) ≤ 9223372036854775807) (hz : (B64 a <<< 64).toInt = n0) :
    Calls Try.prog 14 #[.int .i64 9, .int .i64 a, .int .i64 (n : Int)] w fun e w' => e = .returned (.tuple #[.int .i64 n0, .int .i64 0]) ∧ Below w.heap.size w w' := by
  obtain ⟨z, hz0⟩ : ∃ z, z = B64 a <<< 64 := ⟨_, rfl⟩
  rw [← hz0] at hz
  have HZ := Lib.hid (fun (i : Nat) (h : i < 64) => show z.getLsbD i = false by rw [hz0]; exact shl_bit_out (B64 a) 64 i h)
  have HS := Lib.hid hz
  clear hz hz0
  have hn0 : 0 ≤ (n : Int) := by omega
  go_enter Try.func14, Try.ntmps14
  go_wp2_with fail
  refine (cells_any a _).mono ?_
  rintro e w1 ⟨rfl, g1⟩
  go_wp2_with fail
  refine (cells_any (n : Int) _).mono ?_
  rintro e w2 ⟨rfl, g2⟩
  go_wp2_with (first | (refine store_arr_any rfl _ _ rfl w2.heap.size _ rfl rfl 54 _ (heap_alloc2_old _ _ _) rfl ?_; intro W1 hr1 ho1 hb1 hsz; clear hsz; have h1 := Lib.hid ((ho1 (w2.heap.size + 1) (by omega)).trans (heap_alloc2_new _ _ _)); have R1 := Lib.hid hr1; clear ho1 hr1) | (refine store_arr_any rfl _ _ rfl (w2.heap.size + 1) _ rfl rfl 54 _ h1.out rfl ?_; intro W2 hr2 ho2 hb2 hsz; clear hsz; have hF : F2 w w2.heap.size (w2.heap.size + 1) (bvV (B64 a)) (bvV (B64 (n : Int))) W2 := f2_start g1 g2 R1.out hb1 hr2 ho2 hb2; have F := Lib.hid hF; clear hr2 ho2 hb2 hF R1 h1 hb1))
  have hF3 : F3 w w2.heap.size (w2.heap.size + 1) W2.heap.size (bvV (B64 a)) (bvV (B64 (n : Int))) (arrV offV) (W2.alloc (.cells (arrV offV) 54)) := F3.start F.out
  rw [arr_zero] at hF3
  have HF0 := Lib.hid hF3
  clear hF3 F
  generalize hbx : w2.heap.size = bx at *
  generalize hb2 : bx + 1 = b2 at *
  generalize hbo : W2.heap.size = bo at *
  clear hbx hb2 hbo
  go_loopw [104] (fun i wr => ∃ k : Nat, k ≤ 64 ∧ i = .int .i64 k ∧ F3 w bx b2 bo (bvV (B64 a)) (bvV (B64 (n : Int))) (arrV (midF z.getLsbD k)) wr) (fun i _ => 64 - (intOf i).toNat)
  case atStart => exact ⟨0, by omega, rfl, by rw [midF_start, arr_zero]; exact HF0.out⟩
  case round =>
    obtain ⟨k, hk, rfl, hF⟩ := hrel
    clear HF0 g1 g2
    by_cases hlt : k < 64
    · obtain ⟨hd, hfr⟩ := spot hF.ho hlt
      have HF := Lib.hid hF
      have q1 : (k : Int) < 64 := by omega
      have HM := Lib.hid (fun (c : Bool) (h : z.getLsbD k = c) => midF_step z.getLsbD k c h)
      clear hF
      have HB := Lib.hid (HZ.out k hlt)
      go_wp2_with fail
      go_roundw
      case rel => exact ⟨k + 1, by omega, by go_num, by rw [← HM.out _ (HB.out)]; exact HF.out.seto _ _⟩
      case measure => simp [intOf]; omega
    · rw [midF_end _ k (by omega)] at hF
      have G := Lib.hid hF
      clear hF
      go_wp2_with (first | (refine wpList_load_row rfl 54 _ rfl bo rfl 54 _ (0, 0) _ G.out.ho Try.underlying54 rfl (info_arrV _) ?_) | (go_at_call 25; refine (rnumber_c _ _ _ HS.out).mono ?_; rintro e v0 ⟨rfl, g0⟩; replace G := Lib.hid (G.out.next g0); clear g0))
      go_ret2
      exact ⟨rfl, G.out.f.below⟩

set_option maxHeartbeats 3200000 in
set_option maxRecDepth 100000 in
theorem rbin_10_small (a : Int) (n : Nat) (w : World) (n0 : Int) (hn : n ≤ 64) (hz : ((B64 a).sshiftRight n).toInt = n0) :
    Calls Try.prog 14 #[.int .i64 10, .int .i64 a, .int .i64 (n : Int)] w fun e w' => e = .returned (.tuple #[.int .i64 n0, .int .i64 0]) ∧ Below w.heap.size w w' := by
  have HS := Lib.hid hz
  clear hz
  have hn0 : 0 ≤ (n : Int) := by omega
  go_enter Try.func14, Try.ntmps14
  go_wp2_with fail
  refine (cells_any a _).mono ?_
  rintro e w1 ⟨rfl, g1⟩
  go_wp2_with fail
  refine (cells_any (n : Int) _).mono ?_
  rintro e w2 ⟨rfl, g2⟩
  go_wp2_with (first | (refine store_arr_any rfl _ _ rfl w2.heap.size _ rfl rfl 54 _ (heap_alloc2_old _ _ _) rfl ?_; intro W1 hr1 ho1 hb1 hsz; clear hsz; have h1 := Lib.hid ((ho1 (w2.heap.size + 1) (by omega)).trans (heap_alloc2_new _ _ _)); have R1 := Lib.hid hr1; clear ho1 hr1) | (refine store_arr_any rfl _ _ rfl (w2.heap.size + 1) _ rfl rfl 54 _ h1.out rfl ?_; intro W2 hr2 ho2 hb2 hsz; clear hsz; have hF : F2 w w2.heap.size (w2.heap.size + 1) (bvV (B64 a)) (bvV (B64 (n : Int))) W2 := f2_start g1 g2 R1.out hb1 hr2 ho2 hb2; have F := Lib.hid hF; clear hr2 ho2 hb2 hF R1 h1 hb1))
  have hF3 : F3 w w2.heap.size (w2.heap.size + 1) W2.heap.size (bvV (B64 a)) (bvV (B64 (n : Int))) (arrV offV) (W2.alloc (.cells (arrV offV) 54)) := F3.start F.out
  rw [arr_zero] at hF3
  have HF0 := Lib.hid hF3
  clear hF3 F
  generalize hbx : w2.heap.size = bx at *
  generalize hb2 : bx + 1 = b2 at *
  generalize hbo : W2.heap.size = bo at *
  clear hbx hb2 hbo
  go_loopw [104] (fun i wr => ∃ k : Nat, k ≤ 64 ∧ i = .int .i64 k ∧ F3 w bx b2 bo (bvV (B64 a)) (bvV (B64 (n : Int))) (arrV (midF ((B64 a).sshiftRight n).getLsbD k)) wr) (fun i _ => 64 - (intOf i).toNat)
  case atStart => exact ⟨0, by omega, rfl, by rw [midF_start, arr_zero]; exact HF0.out⟩
  case round =>
    obtain ⟨k, hk, rfl, hF⟩ := hrel
    clear HF0 g1 g2
    by_cases hlt : k < 64
    · obtain ⟨hd, hfr⟩ := spot hF.ho hlt
      have HF := Lib.hid hF
      have q1 : (k : Int) < 64 := by omega
      have HM := Lib.hid (fun (c : Bool) (h : ((B64 a).sshiftRight n).getLsbD k = c) => midF_step ((B64 a).sshiftRight n).getLsbD k c h)
      clear hF
      by_cases hin : k + n < 64
      · have hc := (spot HF.out.f.hx (j := k + n) hin).1
        have HB := Lib.hid (shr_bit_in (B64 a) n k hin)
        have e1 : (k : Int) + (n : Int) ≤ 63 := by omega
        have e2 : ((k + n : Nat) : Int) = (k : Int) + (n : Int) := by omega
        cases hp : (B64 a).getLsbD (k + n) <;> rw [hp] at hc HB <;> clear hp
        all_goals
          go_wp2_with fail
          go_roundw
          case rel => exact ⟨k + 1, by omega, by go_num, by rw [← HM.out _ (HB.out)]; exact HF.out.seto _ _⟩
          case measure => simp [intOf]; omega
      · have hc := (spot HF.out.f.hx (j := 63) (by decide)).1
        have HB := Lib.hid (shr_bit_out (B64 a) n k hlt hin)
        have e1 : 63 < (k : Int) + (n : Int) := by omega
        cases hp : (B64 a).getLsbD 63 <;> rw [hp] at hc HB <;> clear hp
        all_goals
          go_wp2_with fail
          go_roundw
          case rel => exact ⟨k + 1, by omega, by go_num, by rw [← HM.out _ (HB.out)]; exact HF.out.seto _ _⟩
          case measure => simp [intOf]; omega
    · rw [midF_end _ k (by omega)] at hF
      have G := Lib.hid hF
      clear hF
      go_wp2_with (first | (refine wpList_load_row rfl 54 _ rfl bo rfl 54 _ (0, 0) _ G.out.ho Try.underlying54 rfl (info_arrV _) ?_) | (go_at_call 25; refine (rnumber_c _ _ _ HS.out).mono ?_; rintro e v0 ⟨rfl, g0⟩; replace G := Lib.hid (G.out.next g0); clear g0))
      go_ret2
      exact ⟨rfl, G.out.f.below⟩

set_option maxHeartbeats 3200000 in
set_option maxRecDepth 100000 in
theorem rbin_10_big (a : Int) (n : Nat) (w : World) (n0 : Int) (hn : 64 < n) (hn2 : (n : Int) ≤ 9223372036854775807) (hz : ((B64 a).sshiftRight 64).toInt = n0) :
    Calls Try.prog 14 #[.int .i64 10, .int .i64 a, .int .i64 (n : Int)] w fun e w' => e = .returned (.tuple #[.int .i64 n0, .int .i64 0]) ∧ Below w.heap.size w w' := by
  have HS := Lib.hid hz
  clear hz
  have hn0 : 0 ≤ (n : Int) := by omega
  go_enter Try.func14, Try.ntmps14
  go_wp2_with fail
  refine (cells_any a _).mono ?_
  rintro e w1 ⟨rfl, g1⟩
  go_wp2_with fail
  refine (cells_any (n : Int) _).mono ?_
  rintro e w2 ⟨rfl, g2⟩
  go_wp2_with (first | (refine store_arr_any rfl _ _ rfl w2.heap.size _ rfl rfl 54 _ (heap_alloc2_old _ _ _) rfl ?_; intro W1 hr1 ho1 hb1 hsz; clear hsz; have h1 := Lib.hid ((ho1 (w2.heap.size + 1) (by omega)).trans (heap_alloc2_new _ _ _)); have R1 := Lib.hid hr1; clear ho1 hr1) | (refine store_arr_any rfl _ _ rfl (w2.heap.size + 1) _ rfl rfl 54 _ h1.out rfl ?_; intro W2 hr2 ho2 hb2 hsz; clear hsz; have hF : F2 w w2.heap.size (w2.heap.size + 1) (bvV (B64 a)) (bvV (B64 (n : Int))) W2 := f2_start g1 g2 R1.out hb1 hr2 ho2 hb2; have F := Lib.hid hF; clear hr2 ho2 hb2 hF R1 h1 hb1))
  have hF3 : F3 w w2.heap.size (w2.heap.size + 1) W2.heap.size (bvV (B64 a)) (bvV (B64 (n : Int))) (arrV offV) (W2.alloc (.cells (arrV offV) 54)) := F3.start F.out
  rw [arr_zero] at hF3
  have HF0 := Lib.hid hF3
  clear hF3 F
  generalize hbx : w2.heap.size = bx at *
  generalize hb2 : bx + 1 = b2 at *
  generalize hbo : W2.heap.size = bo at *
  clear hbx hb2 hbo
  go_loopw [104] (fun i wr => ∃ k : Nat, k ≤ 64 ∧ i = .int .i64 k ∧ F3 w bx b2 bo (bvV (B64 a)) (bvV (B64 (n : Int))) (arrV (midF ((B64 a).sshiftRight 64).getLsbD k)) wr) (fun i _ => 64 - (intOf i).toNat)
  case atStart => exact ⟨0, by omega, rfl, by rw [midF_start, arr_zero]; exact HF0.out⟩
  case round =>
    obtain ⟨k, hk, rfl, hF⟩ := hrel
    clear HF0 g1 g2
    by_cases hlt : k < 64
    · obtain ⟨hd, hfr⟩ := spot hF.ho hlt
      have HF := Lib.hid hF
      have q1 : (k : Int) < 64 := by omega
      have HM := Lib.hid (fun (c : Bool) (h : ((B64 a).sshiftRight 64).getLsbD k = c) => midF_step ((B64 a).sshiftRight 64).getLsbD k c h)
      clear hF
      · have hc := (spot HF.out.f.hx (j := 63) (by decide)).1
        have HB := Lib.hid (shr_bit_out (B64 a) 64 k hlt (by omega))
        have e1 : 63 < (k : Int) + 64 := by omega
        cases hp : (B64 a).getLsbD 63 <;> rw [hp] at hc HB <;> clear hp
        all_goals
          go_wp2_with fail
          go_roundw
          case rel => exact ⟨k + 1, by omega, by go_num, by rw [← HM.out _ (HB.out)]; exact HF.out.seto _ _⟩
          case measure => simp [intOf]; omega
    · rw [midF_end _ k (by omega)] at hF
      have G := Lib.hid hF
      clear hF
      go_wp2_with (first | (refine wpList_load_row rfl 54 _ rfl bo rfl 54 _ (0, 0) _ G.out.ho Try.underlying54 rfl (info_arrV _) ?_) | (go_at_call 25; refine (rnumber_c _ _ _ HS.out).mono ?_; rintro e v0 ⟨rfl, g0⟩; replace G := Lib.hid (G.out.next g0); clear g0))
      go_ret2
      exact ⟨rfl, G.out.f.below⟩
end Go.Proofs.Ytonpbbflloljgaa
