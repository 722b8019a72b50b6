/-
  The walks of the reference's Bin, op by op: sums, products, order.
-/
import Derived.Test.YtonpbbflloljgaaRefBelow
namespace Go.Proofs.Ytonpbbflloljgaa
open Go.RowKit

theorem F2.facts {w wr : World} {bx b2 : Nat} {cx cy : Array Value} (h : F2 w bx b2 cx cy wr) (hx : cx.size = 64) (hy : cy.size = 64) : rowOk wr bx = true ∧ rowAt wr bx = cx ∧ rowOk wr b2 = true ∧ rowAt wr b2 = cy :=
  ⟨rowOk_of h.hx hx, rowAt_of h.hx, rowOk_of h.hy hy, rowAt_of h.hy⟩
theorem below_c (x y : Int) (c : Bool) (w : World) (hx : I64 x) (hy : I64 y) (h : c = decide (x < y)) : Calls Try.prog 31 #[.int .i64 x, .int .i64 y] w fun e w' => e = .returned (.bool c) ∧ Below w.heap.size w w' := by
  rw [h]; exact below_any x y w hx hy
theorem rnumber_c (x : BitVec 64) (n : Int) (w : World) (h : x.toInt = n) : Calls Try.prog 25 #[.agg (bvV x)] w fun e w' => e = .returned (.int .i64 n) ∧ Below w.heap.size w w' := by
  rw [← h]; exact rnumber_b x w
theorem not_lt_decide (x y : Int) : (!decide (x < y)) = decide (y ≤ x) := by
  rw [Bool.eq_iff_iff]; simp

set_option maxHeartbeats 1600000 in
set_option maxRecDepth 100000 in
theorem rbin_1 (a b : Int) (w : World) :
    Calls Try.prog 14 #[.int .i64 1, .int .i64 a, .int .i64 b] w fun e w' => e = .returned (.tuple #[.int .i64 (binV 1 a b), .int .i64 (wayV 1 b)]) ∧ Below w.heap.size w w' := by
  obtain ⟨n0, hn0⟩ : ∃ n0, n0 = binV 1 a b := ⟨_, rfl⟩
  rw [← hn0, show wayV 1 b = 0 from rfl]
  have HS : Hid ((B64 a + B64 b).toInt = n0) := Lib.hid (by rw [hn0, binV_1, addB])
  clear hn0
  go_enter Try.func14, Try.ntmps14
  go_wp2_with fail
  refine (cells_any a _).mono ?_
  rintro e w1 ⟨rfl, g1⟩
  go_wp2_with fail
  refine (cells_any b _).mono ?_
  rintro e w2 ⟨rfl, g2⟩
  go_wp2_with (first | (refine store_arr_any rfl _ _ rfl w2.heap.size _ rfl rfl 54 _ (heap_alloc2_old _ _ _) rfl ?_; intro W1 hr1 ho1 hb1 hsz; clear hsz; have h1 := Lib.hid ((ho1 (w2.heap.size + 1) (by omega)).trans (heap_alloc2_new _ _ _)); have R1 := Lib.hid hr1; clear ho1 hr1) | (refine store_arr_any rfl _ _ rfl (w2.heap.size + 1) _ rfl rfl 54 _ h1.out rfl ?_; intro W2 hr2 ho2 hb2 hsz; clear hsz; have hF : F2 w w2.heap.size (w2.heap.size + 1) (bvV (B64 a)) (bvV (B64 b)) W2 := f2_start g1 g2 R1.out hb1 hr2 ho2 hb2; have F := Lib.hid hF; clear hr2 ho2 hb2 hF R1 h1 hb1) | (refine wpList_load_row rfl 54 _ rfl w2.heap.size rfl 54 _ (0, 0) _ F.out.hx Try.underlying54 rfl (info_arrV _) ?_) | (refine wpList_load_row rfl 54 _ rfl (w2.heap.size + 1) rfl 54 _ (0, 0) _ F.out.hy Try.underlying54 rfl (info_arrV _) ?_) | (go_at_call 26; refine (plus_any _ _ _).mono ?_; rintro e v0 ⟨rfl, g0⟩; replace F := Lib.hid (F.out.next g0); clear g0) | (go_at_call 25; refine (rnumber_c _ _ _ HS.out).mono ?_; rintro e v0 ⟨rfl, g0⟩; replace F := Lib.hid (F.out.next g0); clear g0))
  go_ret2
  exact ⟨rfl, F.out.below⟩

set_option maxHeartbeats 1600000 in
set_option maxRecDepth 100000 in
theorem rbin_3 (a b : Int) (w : World) :
    Calls Try.prog 14 #[.int .i64 3, .int .i64 a, .int .i64 b] w fun e w' => e = .returned (.tuple #[.int .i64 (binV 3 a b), .int .i64 (wayV 3 b)]) ∧ Below w.heap.size w w' := by
  obtain ⟨n0, hn0⟩ : ∃ n0, n0 = binV 3 a b := ⟨_, rfl⟩
  rw [← hn0, show wayV 3 b = 0 from rfl]
  have HS : Hid ((B64 a * B64 b).toInt = n0) := Lib.hid (by rw [hn0, binV_3, mulB])
  clear hn0
  go_enter Try.func14, Try.ntmps14
  go_wp2_with fail
  refine (cells_any a _).mono ?_
  rintro e w1 ⟨rfl, g1⟩
  go_wp2_with fail
  refine (cells_any b _).mono ?_
  rintro e w2 ⟨rfl, g2⟩
  go_wp2_with (first | (refine store_arr_any rfl _ _ rfl w2.heap.size _ rfl rfl 54 _ (heap_alloc2_old _ _ _) rfl ?_; intro W1 hr1 ho1 hb1 hsz; clear hsz; have h1 := Lib.hid ((ho1 (w2.heap.size + 1) (by omega)).trans (heap_alloc2_new _ _ _)); have R1 := Lib.hid hr1; clear ho1 hr1) | (refine store_arr_any rfl _ _ rfl (w2.heap.size + 1) _ rfl rfl 54 _ h1.out rfl ?_; intro W2 hr2 ho2 hb2 hsz; clear hsz; have hF : F2 w w2.heap.size (w2.heap.size + 1) (bvV (B64 a)) (bvV (B64 b)) W2 := f2_start g1 g2 R1.out hb1 hr2 ho2 hb2; have F := Lib.hid hF; clear hr2 ho2 hb2 hF R1 h1 hb1) | (refine wpList_load_row rfl 54 _ rfl w2.heap.size rfl 54 _ (0, 0) _ F.out.hx Try.underlying54 rfl (info_arrV _) ?_) | (refine wpList_load_row rfl 54 _ rfl (w2.heap.size + 1) rfl 54 _ (0, 0) _ F.out.hy Try.underlying54 rfl (info_arrV _) ?_) | (go_at_call 28; refine (times_any _ _ _).mono ?_; rintro e v0 ⟨rfl, g0⟩; replace F := Lib.hid (F.out.next g0); clear g0) | (go_at_call 25; refine (rnumber_c _ _ _ HS.out).mono ?_; rintro e v0 ⟨rfl, g0⟩; replace F := Lib.hid (F.out.next g0); clear g0))
  go_ret2
  exact ⟨rfl, F.out.below⟩

attribute [local go_sem ↓] Go.wp_at_zero Go.wp_at_succ wp_load_arr wp_store_arr in
set_option maxHeartbeats 1600000 in
set_option maxRecDepth 100000 in
theorem rbin_2 (a b : Int) (w : World) :
    Calls Try.prog 14 #[.int .i64 2, .int .i64 a, .int .i64 b] w fun e w' => e = .returned (.tuple #[.int .i64 (binV 2 a b), .int .i64 (wayV 2 b)]) ∧ Below w.heap.size w w' := by
  obtain ⟨n0, hn0⟩ : ∃ n0, n0 = binV 2 a b := ⟨_, rfl⟩
  rw [← hn0, show wayV 2 b = 0 from rfl]
  have HS : Hid ((B64 a + -B64 b).toInt = n0) := Lib.hid (by rw [hn0, binV_2, subB, BitVec.sub_eq_add_neg])
  clear hn0
  go_enter Try.func14, Try.ntmps14
  go_wp2_with fail
  refine (cells_any a _).mono ?_
  rintro e w1 ⟨rfl, g1⟩
  go_wp2_with fail
  refine (cells_any b _).mono ?_
  rintro e w2 ⟨rfl, g2⟩
  go_wp2_with (first | (refine store_arr_any rfl _ _ rfl w2.heap.size _ rfl rfl 54 _ (heap_alloc2_old _ _ _) rfl ?_; intro W1 hr1 ho1 hb1 hsz; clear hsz; have h1 := Lib.hid ((ho1 (w2.heap.size + 1) (by omega)).trans (heap_alloc2_new _ _ _)); have R1 := Lib.hid hr1; clear ho1 hr1) | (refine store_arr_any rfl _ _ rfl (w2.heap.size + 1) _ rfl rfl 54 _ h1.out rfl ?_; intro W2 hr2 ho2 hb2 hsz; clear hsz; have hF : F2 w w2.heap.size (w2.heap.size + 1) (bvV (B64 a)) (bvV (B64 b)) W2 := f2_start g1 g2 R1.out hb1 hr2 ho2 hb2; have F := Lib.hid hF; clear hr2 ho2 hb2 hF R1 h1 hb1))
  have F' := Lib.hid (F.out.next (Below.refl _ _).drew)
  clear F
  have F := F'
  clear F'
  obtain ⟨a1, a2, a3, a4⟩ := F.out.facts (bvV_size _) (bvV_size _)
  go_region_with (first | (go_at_call 27; refine (rturned_any _ _).mono ?_; rintro e v0 ⟨rfl, g0⟩; replace F := Lib.hid (F.out.next g0); obtain ⟨b1, b2, b3, b4⟩ := F.out.facts (bvV_size _) (bvV_size _); clear g0) | (go_at_call 26; refine (plus_any _ _ _).mono ?_; rintro e v0 ⟨rfl, g0⟩; replace F := Lib.hid (F.out.next g0); clear g0) | (go_at_call 25; refine (rnumber_c _ _ _ HS.out).mono ?_; rintro e v0 ⟨rfl, g0⟩; replace F := Lib.hid (F.out.next g0); clear g0))
  all_goals
    go_wp2_with fail
    go_ret2
    exact ⟨rfl, F.out.below⟩

set_option maxHeartbeats 1600000 in
set_option maxRecDepth 100000 in
theorem rbin_11 (a b : Int) (w : World) (ha : I64 a) (hb : I64 b) :
    Calls Try.prog 14 #[.int .i64 11, .int .i64 a, .int .i64 b] w fun e w' => e = .returned (.tuple #[.int .i64 (binV 11 a b), .int .i64 (wayV 11 b)]) ∧ Below w.heap.size w w' := by
  obtain ⟨n0, hn0⟩ : ∃ n0, n0 = binV 11 a b := ⟨_, rfl⟩
  rw [← hn0, show wayV 11 b = 0 from rfl]
  have HN0 := Lib.hid hn0
  clear hn0
  have HA := Lib.hid ha
  have HB := Lib.hid hb
  clear ha hb
  go_enter Try.func14, Try.ntmps14
  go_wp2_with fail
  refine (cells_any a _).mono ?_
  rintro e w1 ⟨rfl, g1⟩
  go_wp2_with fail
  refine (cells_any b _).mono ?_
  rintro e w2 ⟨rfl, g2⟩
  obtain ⟨c, hc⟩ : ∃ c, c = decide (a < b) := ⟨_, rfl⟩
  have HC := Lib.hid hc
  clear hc
  go_wp2_with (first | (refine store_arr_any rfl _ _ rfl w2.heap.size _ rfl rfl 54 _ (heap_alloc2_old _ _ _) rfl ?_; intro W1 hr1 ho1 hb1 hsz; clear hsz; have h1 := Lib.hid ((ho1 (w2.heap.size + 1) (by omega)).trans (heap_alloc2_new _ _ _)); have R1 := Lib.hid hr1; clear ho1 hr1) | (refine store_arr_any rfl _ _ rfl (w2.heap.size + 1) _ rfl rfl 54 _ h1.out rfl ?_; intro W2 hr2 ho2 hb2 hsz; clear hsz; have hF : F2 w w2.heap.size (w2.heap.size + 1) (bvV (B64 a)) (bvV (B64 b)) W2 := f2_start g1 g2 R1.out hb1 hr2 ho2 hb2; have F := Lib.hid hF; clear hr2 ho2 hb2 hF R1 h1 hb1) | (go_at_call 31; refine (below_c _ _ c _ HA.out HB.out HC.out).mono ?_; rintro e v0 ⟨rfl, g0⟩; replace F := Lib.hid (F.out.next g0); clear g0) | (go_at_call 30; refine (rone_any _ _).mono ?_; rintro e v1 ⟨rfl, rfl⟩))
  go_ret2
  exact ⟨ret_two (by rw [HN0.out, binV_11, HC.out]) rfl, F.out.below⟩

set_option maxHeartbeats 1600000 in
set_option maxRecDepth 100000 in
theorem rbin_12 (a b : Int) (w : World) (ha : I64 a) (hb : I64 b) :
    Calls Try.prog 14 #[.int .i64 12, .int .i64 a, .int .i64 b] w fun e w' => e = .returned (.tuple #[.int .i64 (binV 12 a b), .int .i64 (wayV 12 b)]) ∧ Below w.heap.size w w' := by
  obtain ⟨n0, hn0⟩ : ∃ n0, n0 = binV 12 a b := ⟨_, rfl⟩
  rw [← hn0, show wayV 12 b = 0 from rfl]
  have HN0 := Lib.hid hn0
  clear hn0
  have HA := Lib.hid ha
  have HB := Lib.hid hb
  clear ha hb
  go_enter Try.func14, Try.ntmps14
  go_wp2_with fail
  refine (cells_any a _).mono ?_
  rintro e w1 ⟨rfl, g1⟩
  go_wp2_with fail
  refine (cells_any b _).mono ?_
  rintro e w2 ⟨rfl, g2⟩
  obtain ⟨c, hc⟩ : ∃ c, c = decide (b < a) := ⟨_, rfl⟩
  have HC := Lib.hid hc
  clear hc
  go_wp2_with (first | (refine store_arr_any rfl _ _ rfl w2.heap.size _ rfl rfl 54 _ (heap_alloc2_old _ _ _) rfl ?_; intro W1 hr1 ho1 hb1 hsz; clear hsz; have h1 := Lib.hid ((ho1 (w2.heap.size + 1) (by omega)).trans (heap_alloc2_new _ _ _)); have R1 := Lib.hid hr1; clear ho1 hr1) | (refine store_arr_any rfl _ _ rfl (w2.heap.size + 1) _ rfl rfl 54 _ h1.out rfl ?_; intro W2 hr2 ho2 hb2 hsz; clear hsz; have hF : F2 w w2.heap.size (w2.heap.size + 1) (bvV (B64 a)) (bvV (B64 b)) W2 := f2_start g1 g2 R1.out hb1 hr2 ho2 hb2; have F := Lib.hid hF; clear hr2 ho2 hb2 hF R1 h1 hb1) | (go_at_call 31; refine (below_c _ _ c _ HB.out HA.out HC.out).mono ?_; rintro e v0 ⟨rfl, g0⟩; replace F := Lib.hid (F.out.next g0); clear g0) | (go_at_call 30; refine (rone_any _ _).mono ?_; rintro e v1 ⟨rfl, rfl⟩))
  go_ret2
  exact ⟨ret_two (by rw [HN0.out, binV_12, HC.out, not_lt_decide]) rfl, F.out.below⟩

set_option maxHeartbeats 1600000 in
set_option maxRecDepth 100000 in
theorem rbin_13 (a b : Int) (w : World) (ha : I64 a) (hb : I64 b) :
    Calls Try.prog 14 #[.int .i64 13, .int .i64 a, .int .i64 b] w fun e w' => e = .returned (.tuple #[.int .i64 (binV 13 a b), .int .i64 (wayV 13 b)]) ∧ Below w.heap.size w w' := by
  obtain ⟨n0, hn0⟩ : ∃ n0, n0 = binV 13 a b := ⟨_, rfl⟩
  rw [← hn0, show wayV 13 b = 0 from rfl]
  have HN0 := Lib.hid hn0
  clear hn0
  have HA := Lib.hid ha
  have HB := Lib.hid hb
  clear ha hb
  go_enter Try.func14, Try.ntmps14
  go_wp2_with fail
  refine (cells_any a _).mono ?_
  rintro e w1 ⟨rfl, g1⟩
  go_wp2_with fail
  refine (cells_any b _).mono ?_
  rintro e w2 ⟨rfl, g2⟩
  obtain ⟨c, hc⟩ : ∃ c, c = decide (b < a) := ⟨_, rfl⟩
  have HC := Lib.hid hc
  clear hc
  go_wp2_with (first | (refine store_arr_any rfl _ _ rfl w2.heap.size _ rfl rfl 54 _ (heap_alloc2_old _ _ _) rfl ?_; intro W1 hr1 ho1 hb1 hsz; clear hsz; have h1 := Lib.hid ((ho1 (w2.heap.size + 1) (by omega)).trans (heap_alloc2_new _ _ _)); have R1 := Lib.hid hr1; clear ho1 hr1) | (refine store_arr_any rfl _ _ rfl (w2.heap.size + 1) _ rfl rfl 54 _ h1.out rfl ?_; intro W2 hr2 ho2 hb2 hsz; clear hsz; have hF : F2 w w2.heap.size (w2.heap.size + 1) (bvV (B64 a)) (bvV (B64 b)) W2 := f2_start g1 g2 R1.out hb1 hr2 ho2 hb2; have F := Lib.hid hF; clear hr2 ho2 hb2 hF R1 h1 hb1) | (go_at_call 31; refine (below_c _ _ c _ HB.out HA.out HC.out).mono ?_; rintro e v0 ⟨rfl, g0⟩; replace F := Lib.hid (F.out.next g0); clear g0) | (go_at_call 30; refine (rone_any _ _).mono ?_; rintro e v1 ⟨rfl, rfl⟩))
  go_ret2
  exact ⟨ret_two (by rw [HN0.out, binV_13, HC.out]) rfl, F.out.below⟩

set_option maxHeartbeats 1600000 in
set_option maxRecDepth 100000 in
theorem rbin_14 (a b : Int) (w : World) (ha : I64 a) (hb : I64 b) :
    Calls Try.prog 14 #[.int .i64 14, .int .i64 a, .int .i64 b] w fun e w' => e = .returned (.tuple #[.int .i64 (binV 14 a b), .int .i64 (wayV 14 b)]) ∧ Below w.heap.size w w' := by
  obtain ⟨n0, hn0⟩ : ∃ n0, n0 = binV 14 a b := ⟨_, rfl⟩
  rw [← hn0, show wayV 14 b = 0 from rfl]
  have HN0 := Lib.hid hn0
  clear hn0
  have HA := Lib.hid ha
  have HB := Lib.hid hb
  clear ha hb
  go_enter Try.func14, Try.ntmps14
  go_wp2_with fail
  refine (cells_any a _).mono ?_
  rintro e w1 ⟨rfl, g1⟩
  go_wp2_with fail
  refine (cells_any b _).mono ?_
  rintro e w2 ⟨rfl, g2⟩
  obtain ⟨c, hc⟩ : ∃ c, c = decide (a < b) := ⟨_, rfl⟩
  have HC := Lib.hid hc
  clear hc
  go_wp2_with (first | (refine store_arr_any rfl _ _ rfl w2.heap.size _ rfl rfl 54 _ (heap_alloc2_old _ _ _) rfl ?_; intro W1 hr1 ho1 hb1 hsz; clear hsz; have h1 := Lib.hid ((ho1 (w2.heap.size + 1) (by omega)).trans (heap_alloc2_new _ _ _)); have R1 := Lib.hid hr1; clear ho1 hr1) | (refine store_arr_any rfl _ _ rfl (w2.heap.size + 1) _ rfl rfl 54 _ h1.out rfl ?_; intro W2 hr2 ho2 hb2 hsz; clear hsz; have hF : F2 w w2.heap.size (w2.heap.size + 1) (bvV (B64 a)) (bvV (B64 b)) W2 := f2_start g1 g2 R1.out hb1 hr2 ho2 hb2; have F := Lib.hid hF; clear hr2 ho2 hb2 hF R1 h1 hb1) | (go_at_call 31; refine (below_c _ _ c _ HA.out HB.out HC.out).mono ?_; rintro e v0 ⟨rfl, g0⟩; replace F := Lib.hid (F.out.next g0); clear g0) | (go_at_call 30; refine (rone_any _ _).mono ?_; rintro e v1 ⟨rfl, rfl⟩))
  go_ret2
  exact ⟨ret_two (by rw [HN0.out, binV_14, HC.out, not_lt_decide]) rfl, F.out.below⟩

set_option maxHeartbeats 1600000 in
set_option maxRecDepth 100000 in
theorem rbin_15 (a b : Int) (w : World) (ha : I64 a) (hb : I64 b) :
    Calls Try.prog 14 #[.int .i64 15, .int .i64 a, .int .i64 b] w fun e w' => e = .returned (.tuple #[.int .i64 (binV 15 a b), .int .i64 (wayV 15 b)]) ∧ Below w.heap.size w w' := by
  obtain ⟨n0, hn0⟩ : ∃ n0, n0 = binV 15 a b := ⟨_, rfl⟩
  rw [← hn0, show wayV 15 b = 0 from rfl]
  have HN0 := Lib.hid hn0
  clear hn0
  have HE := Lib.hid (B64_eq a b ha hb)
  have hg := guard_arr
  clear ha hb
  go_enter Try.func14, Try.ntmps14
  go_wp2_with fail
  refine (cells_any a _).mono ?_
  rintro e w1 ⟨rfl, g1⟩
  go_wp2_with fail
  refine (cells_any b _).mono ?_
  rintro e w2 ⟨rfl, g2⟩
  have hrun := fun w : World => run_eql_arr (B64 a) (B64 b) w
  obtain ⟨c, hc⟩ : ∃ c, c = (B64 a == B64 b) := ⟨_, rfl⟩
  rw [← hc] at hrun
  have HC := Lib.hid hc
  clear hc
  go_wp2_with (first | (refine store_arr_any rfl _ _ rfl w2.heap.size _ rfl rfl 54 _ (heap_alloc2_old _ _ _) rfl ?_; intro W1 hr1 ho1 hb1 hsz; clear hsz; have h1 := Lib.hid ((ho1 (w2.heap.size + 1) (by omega)).trans (heap_alloc2_new _ _ _)); have R1 := Lib.hid hr1; clear ho1 hr1) | (refine store_arr_any rfl _ _ rfl (w2.heap.size + 1) _ rfl rfl 54 _ h1.out rfl ?_; intro W2 hr2 ho2 hb2 hsz; clear hsz; have hF : F2 w w2.heap.size (w2.heap.size + 1) (bvV (B64 a)) (bvV (B64 b)) W2 := f2_start g1 g2 R1.out hb1 hr2 ho2 hb2; have F := Lib.hid hF; clear hr2 ho2 hb2 hF R1 h1 hb1) | (refine wpList_load_row rfl 54 _ rfl w2.heap.size rfl 54 _ (0, 0) _ F.out.hx Try.underlying54 rfl (info_arrV _) ?_) | (refine wpList_load_row rfl 54 _ rfl (w2.heap.size + 1) rfl 54 _ (0, 0) _ F.out.hy Try.underlying54 rfl (info_arrV _) ?_) | (go_at_call 30; refine (rone_any _ _).mono ?_; rintro e v1 ⟨rfl, rfl⟩))
  go_ret2
  exact ⟨ret_two (by rw [HN0.out, binV_15, HC.out, HE.out] <;> rfl) rfl, F.out.below⟩

set_option maxHeartbeats 1600000 in
set_option maxRecDepth 100000 in
theorem rbin_16 (a b : Int) (w : World) (ha : I64 a) (hb : I64 b) :
    Calls Try.prog 14 #[.int .i64 16, .int .i64 a, .int .i64 b] w fun e w' => e = .returned (.tuple #[.int .i64 (binV 16 a b), .int .i64 (wayV 16 b)]) ∧ Below w.heap.size w w' := by
  obtain ⟨n0, hn0⟩ : ∃ n0, n0 = binV 16 a b := ⟨_, rfl⟩
  rw [← hn0, show wayV 16 b = 0 from rfl]
  have HN0 := Lib.hid hn0
  clear hn0
  have HE := Lib.hid (B64_eq a b ha hb)
  have hg := guard_arr
  clear ha hb
  go_enter Try.func14, Try.ntmps14
  go_wp2_with fail
  refine (cells_any a _).mono ?_
  rintro e w1 ⟨rfl, g1⟩
  go_wp2_with fail
  refine (cells_any b _).mono ?_
  rintro e w2 ⟨rfl, g2⟩
  have hrun := fun w : World => run_neq_arr (B64 a) (B64 b) w
  obtain ⟨c, hc⟩ : ∃ c, c = (B64 a == B64 b) := ⟨_, rfl⟩
  rw [← hc] at hrun
  have HC := Lib.hid hc
  clear hc
  go_wp2_with (first | (refine store_arr_any rfl _ _ rfl w2.heap.size _ rfl rfl 54 _ (heap_alloc2_old _ _ _) rfl ?_; intro W1 hr1 ho1 hb1 hsz; clear hsz; have h1 := Lib.hid ((ho1 (w2.heap.size + 1) (by omega)).trans (heap_alloc2_new _ _ _)); have R1 := Lib.hid hr1; clear ho1 hr1) | (refine store_arr_any rfl _ _ rfl (w2.heap.size + 1) _ rfl rfl 54 _ h1.out rfl ?_; intro W2 hr2 ho2 hb2 hsz; clear hsz; have hF : F2 w w2.heap.size (w2.heap.size + 1) (bvV (B64 a)) (bvV (B64 b)) W2 := f2_start g1 g2 R1.out hb1 hr2 ho2 hb2; have F := Lib.hid hF; clear hr2 ho2 hb2 hF R1 h1 hb1) | (refine wpList_load_row rfl 54 _ rfl w2.heap.size rfl 54 _ (0, 0) _ F.out.hx Try.underlying54 rfl (info_arrV _) ?_) | (refine wpList_load_row rfl 54 _ rfl (w2.heap.size + 1) rfl 54 _ (0, 0) _ F.out.hy Try.underlying54 rfl (info_arrV _) ?_) | (go_at_call 30; refine (rone_any _ _).mono ?_; rintro e v1 ⟨rfl, rfl⟩))
  go_ret2
  exact ⟨ret_two (by rw [HN0.out, binV_16, HC.out, HE.out] <;> rfl) rfl, F.out.below⟩
end Go.Proofs.Ytonpbbflloljgaa
