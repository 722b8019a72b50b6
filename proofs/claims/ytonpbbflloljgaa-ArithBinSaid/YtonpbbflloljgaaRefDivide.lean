/-
  The walk of the reference's divide.
-/
import Derived.Test.YtonpbbflloljgaaRefDivM
namespace Go.Proofs.Ytonpbbflloljgaa
open Go.RowKit

/-- The blocks of divide: the divided, the divisor, the quotient, the rest. -/
structure F2 (w : World) (bx b2 : Nat) (cx cy : Array Value) (wr : World) : Prop where
  hx : wr.heap[bx]? = some (.cells cx 54 (0, 0))
  hy : wr.heap[b2]? = some (.cells cy 54 (0, 0))
  below : Below w.heap.size w wr
  lo : w.heap.size ≤ bx
  lt : bx < b2
theorem F2.next {w wr w1 : World} {bx b2 : Nat} {cx cy : Array Value} (h : F2 w bx b2 cx cy wr) (hb : Below wr.heap.size wr w1) : F2 w bx b2 cx cy w1 :=
  ⟨(hb.block _ (Array.getElem?_eq_some_iff.1 h.hx).1).trans h.hx, (hb.block _ (Array.getElem?_eq_some_iff.1 h.hy).1).trans h.hy, h.below.trans (hb.mono h.below.size), h.lo, h.lt⟩
theorem F2.putx {w wr W : World} {bx b2 : Nat} {cx cy c : Array Value} (h : F2 w bx b2 cx cy wr) (hg : W.heap[bx]? = some (.cells c 54 (0, 0))) (ho : ∀ k, k ≠ bx → W.heap[k]? = wr.heap[k]?) (hb : Below bx wr W) : F2 w bx b2 c cy W :=
  ⟨hg, (ho _ (by have := h.lt; omega)).trans h.hy, h.below.trans (hb.mono h.lo), h.lo, h.lt⟩
theorem F2.puty {w wr W : World} {bx b2 : Nat} {cx cy c : Array Value} (h : F2 w bx b2 cx cy wr) (hg : W.heap[b2]? = some (.cells c 54 (0, 0))) (ho : ∀ k, k ≠ b2 → W.heap[k]? = wr.heap[k]?) (hb : Below b2 wr W) : F2 w bx b2 cx c W :=
  ⟨(ho _ (by have := h.lt; omega)).trans h.hx, hg, h.below.trans (hb.mono (by have := h.lt; have := h.lo; omega)), h.lo, h.lt⟩

/-- The prelude: two calls of cells, each laid into a block of its own. -/
theorem f2_start {w w1 w2 W1 W2 : World} {x y : Array Value} {A B : Obj} (h1 : Below w.heap.size w w1) (h2 : Below w1.heap.size w1 w2) (hr1 : W1.heap[w2.heap.size]? = some (.cells x 54 (0, 0))) (hb1 : Below w2.heap.size ((w2.alloc A).alloc B) W1)
    (hr2 : W2.heap[w2.heap.size + 1]? = some (.cells y 54 (0, 0))) (ho2 : ∀ k, k ≠ w2.heap.size + 1 → W2.heap[k]? = W1.heap[k]?) (hb2 : Below (w2.heap.size + 1) W1 W2) : F2 w w2.heap.size (w2.heap.size + 1) x y W2 := by
  have s1 := h1.size
  have s2 := h2.size
  have hw : Below w.heap.size w w2 := h1.trans (h2.mono s1)
  have hw2 : Below w.heap.size w ((w2.alloc A).alloc B) := (hw.alloc hw.size _).alloc (by simp; omega) _
  exact ⟨(ho2 _ (by omega)).trans hr1, hr2, (hw2.trans (hb1.mono hw.size)).trans (hb2.mono (by omega)), hw.size, by omega⟩

structure F4 (w : World) (bx b2 bq br : Nat) (cx cy cq cr : Array Value) (wr : World) : Prop where
  f : F2 w bx b2 cx cy wr
  hq : wr.heap[bq]? = some (.cells cq 54 (0, 0))
  hr : wr.heap[br]? = some (.cells cr 54 (0, 0))
  l1 : b2 < bq
  l2 : bq < br
theorem F4.start {w wr : World} {bx b2 : Nat} {cx cy cq cr : Array Value} (h : F2 w bx b2 cx cy wr) : F4 w bx b2 wr.heap.size (wr.heap.size + 1) cx cy cq cr ((wr.alloc (.cells cq 54)).alloc (.cells cr 54)) :=
  have hx := (Array.getElem?_eq_some_iff.1 h.hx).1
  have hy := (Array.getElem?_eq_some_iff.1 h.hy).1
  ⟨⟨by rw [heap_alloc_old _ _ (by simp; omega), heap_alloc_old _ _ hx]; exact h.hx, by rw [heap_alloc_old _ _ (by simp; omega), heap_alloc_old _ _ hy]; exact h.hy, (h.below.alloc h.below.size _).alloc (by have := h.below.size; simp; omega) _, h.lo, h.lt⟩, heap_alloc2_old _ _ _, heap_alloc2_new _ _ _, hy, by omega⟩
theorem F4.next {w wr w1 : World} {bx b2 bq br : Nat} {cx cy cq cr : Array Value} (h : F4 w bx b2 bq br cx cy cq cr wr) (hb : Below wr.heap.size wr w1) : F4 w bx b2 bq br cx cy cq cr w1 :=
  ⟨h.f.next hb, (hb.block _ (Array.getElem?_eq_some_iff.1 h.hq).1).trans h.hq, (hb.block _ (Array.getElem?_eq_some_iff.1 h.hr).1).trans h.hr, h.l1, h.l2⟩
theorem F4.drew {w wr : World} {bx b2 bq br : Nat} {cx cy cq cr : Array Value} (h : F4 w bx b2 bq br cx cy cq cr wr) : F4 w bx b2 bq br cx cy cq cr wr.drew := h.next (Below.refl _ _).drew
theorem F4.putr {w wr W : World} {bx b2 bq br : Nat} {cx cy cq cr c : Array Value} (h : F4 w bx b2 bq br cx cy cq cr wr) (hg : W.heap[br]? = some (.cells c 54 (0, 0))) (ho : ∀ k, k ≠ br → W.heap[k]? = wr.heap[k]?) (hb : Below br wr W) : F4 w bx b2 bq br cx cy cq c W := by
  have := h.l1; have := h.l2; have := h.f.lt; have := h.f.lo
  exact ⟨⟨(ho _ (by omega)).trans h.f.hx, (ho _ (by omega)).trans h.f.hy, h.f.below.trans (hb.mono (by omega)), h.f.lo, h.f.lt⟩, (ho _ (by omega)).trans h.hq, hg, h.l1, h.l2⟩
theorem F4.putq {w wr W : World} {bx b2 bq br : Nat} {cx cy cq cr c : Array Value} (h : F4 w bx b2 bq br cx cy cq cr wr) (hg : W.heap[bq]? = some (.cells c 54 (0, 0))) (ho : ∀ k, k ≠ bq → W.heap[k]? = wr.heap[k]?) (hb : Below bq wr W) : F4 w bx b2 bq br cx cy c cr W := by
  have := h.l1; have := h.l2; have := h.f.lt; have := h.f.lo
  exact ⟨⟨(ho _ (by omega)).trans h.f.hx, (ho _ (by omega)).trans h.f.hy, h.f.below.trans (hb.mono (by omega)), h.f.lo, h.f.lt⟩, hg, (ho _ (by omega)).trans h.hr, h.l1, h.l2⟩
theorem below_set (wr : World) (b i : Nat) (v : Value) : Below b wr (wr.setCell ⟨b, i, none⟩ v) := (Below.refl b wr).setCell (show b ≤ (⟨b, i, none⟩ : Addr).block from Nat.le_refl _) v
theorem F4.setr {w wr : World} {bx b2 bq br : Nat} {cx cy cq cr : Array Value} (h : F4 w bx b2 bq br cx cy cq cr wr) (i : Nat) (v : Value) : F4 w bx b2 bq br cx cy cq (cr.setIfInBounds i v) (wr.setCell ⟨br, i, none⟩ v) :=
  h.putr (heap_setCell_same _ _ _ _ _ _ h.hr) (fun _ hk => heap_setCell_other _ _ _ _ hk) (below_set _ _ _ _)
theorem F4.setq {w wr : World} {bx b2 bq br : Nat} {cx cy cq cr : Array Value} (h : F4 w bx b2 bq br cx cy cq cr wr) (i : Nat) (v : Value) : F4 w bx b2 bq br cx cy (cq.setIfInBounds i v) cr (wr.setCell ⟨bq, i, none⟩ v) :=
  h.putq (heap_setCell_same _ _ _ _ _ _ h.hq) (fun _ hk => heap_setCell_other _ _ _ _ hk) (below_set _ _ _ _)
theorem F4.row {w wr : World} {bx b2 bq br : Nat} {cx cy cq cr : Array Value} (h : F4 w bx b2 bq br cx cy cq cr wr) (c : Array Value) : F4 w bx b2 bq br cx cy cq c (wr.setRow br c) :=
  h.putr (setRow_heap _ _ _ _ _ _ h.hr) (fun k hk => setRow_other wr br k _ hk) ⟨rfl, rfl, rfl, by simp, fun k hk => setRow_other wr br k _ (by omega)⟩
/-- The blocks with k bits to go. -/
def DivAt (w : World) (bx b2 bq br : Nat) (a b : Int) (k : Nat) (wr : World) : Prop :=
  F4 w bx b2 bq br (bvV (absB a)) (bvV (absB b)) (arrV (quoV a.natAbs b.natAbs k)) (bvV (BitVec.ofNat 64 (restN a.natAbs b.natAbs k))) wr

theorem less_yes (x y : BitVec 64) (w : World) (h : x.toNat < y.toNat) : Calls Try.prog 40 #[.agg (bvV x), .agg (bvV y)] w fun e w' => e = .returned (.bool true) ∧ Below w.heap.size w w' :=
  (less_any x y w).mono fun _ _ ⟨he, hw⟩ => ⟨by rw [he, decide_eq_true h], hw⟩
theorem less_no (x y : BitVec 64) (w : World) (h : ¬ x.toNat < y.toNat) : Calls Try.prog 40 #[.agg (bvV x), .agg (bvV y)] w fun e w' => e = .returned (.bool false) ∧ Below w.heap.size w w' :=
  (less_any x y w).mono fun _ _ ⟨he, hw⟩ => ⟨by rw [he, decide_eq_false h], hw⟩
theorem rnumber_b (x : BitVec 64) (w : World) : Calls Try.prog 25 #[.agg (bvV x)] w fun e w' => e = .returned (.int .i64 x.toInt) ∧ Below w.heap.size w w' :=
  (rnumber_any x w).mono fun _ _ ⟨he, hw⟩ => ⟨he, by rw [← hw]; exact (Below.refl _ _).alloc (Nat.le_refl _) _⟩
theorem moved_1 (x : BitVec 64) (w : World) : Calls Try.prog 39 #[.agg (bvV x), .int .i64 1] w fun e w' => e = .returned (.agg (bvV (x <<< 1))) ∧ Below w.heap.size w w' := moved_any x 1 w (by decide)
theorem F4.facts {w wr : World} {bx b2 bq br : Nat} {cx cy cq cr : Array Value} (h : F4 w bx b2 bq br cx cy cq cr wr) (hy : cy.size = 64) (hr : cr.size = 64) : rowOk wr br = true ∧ rowAt wr br = cr ∧ rowOk wr b2 = true ∧ rowAt wr b2 = cy :=
  ⟨rowOk_of h.hr hr, rowAt_of h.hr, rowOk_of h.f.hy hy, rowAt_of h.f.hy⟩
theorem F4.factsq {w wr : World} {bx b2 bq br : Nat} {cx cy cq cr : Array Value} (h : F4 w bx b2 bq br cx cy cq cr wr) (hq : cq.size = 64) (hr : cr.size = 64) : rowOk wr br = true ∧ rowAt wr br = cr ∧ rowOk wr bq = true ∧ rowAt wr bq = cq :=
  ⟨rowOk_of h.hr hr, rowAt_of h.hr, rowOk_of h.hq hq, rowAt_of h.hq⟩
/-- A place of a row of 64: it is there, and may be written. -/
theorem spot {wr : World} {g j : Nat} {f : Nat → Bool} (h : wr.heap[g]? = some (.cells (arrV f) 54 (0, 0))) (hj : j < 64) : wr.cell? ⟨g, j, none⟩ = some (.bool (f j)) ∧ wr.frozen? ⟨g, j, none⟩ = false :=
  ⟨by rw [cell_of_row wr g j _ _ _ h, arrV_get f j hj], frozen_of_row wr g j _ _ h⟩

theorem ret_two {a b c d : Int} (h1 : a = c) (h2 : b = d) : Ending.returned (.tuple #[.int .i64 a, .int .i64 b]) = .returned (.tuple #[.int .i64 c, .int .i64 d]) := by rw [h1, h2]

attribute [local go_sem ↓] Go.wp_at_zero Go.wp_at_succ wp_load_arr wp_store_arr in
set_option maxHeartbeats 3200000 in
set_option maxRecDepth 100000 in
theorem divide_pp (a b : Int) (w : World) (hia : I64 a) (hib : I64 b) (hb0 : b ≠ 0) (ha : 0 ≤ a) (hb : 0 ≤ b) :
    Calls Try.prog 29 #[.int .i64 a, .int .i64 b] w fun e w' => e = .returned (.tuple #[.int .i64 (wrap64 (a.tdiv b)), .int .i64 (wrap64 (a.tmod b))]) ∧ Below w.heap.size w w' := by
  have hY : 0 < b.natAbs := by omega
  have hY2 := abs_lt b hib
  have hX : a.natAbs < 2 ^ 64 := by have := abs_lt a hia; omega
  have HBT := Lib.hid (absB_toNat b hib)
  obtain ⟨q0, hq0⟩ : ∃ q0, q0 = wrap64 (a.tdiv b) := ⟨_, rfl⟩
  obtain ⟨m0, hm0⟩ : ∃ m0, m0 = wrap64 (a.tmod b) := ⟨_, rfl⟩
  rw [← hq0, ← hm0]
  have HQ0 := Lib.hid hq0
  have HM0 := Lib.hid hm0
  clear hia hib hb0 hq0 hm0
  go_enter Try.func29, Try.ntmps29
  go_wp2_with fail
  refine (cells_any a _).mono ?_
  rintro e w1 ⟨rfl, g1⟩
  go_wp2_with fail
  refine (cells_any b _).mono ?_
  rintro e w2 ⟨rfl, g2⟩
  go_wp2_with (first | (refine store_arr_any rfl _ _ rfl w2.heap.size _ rfl rfl 54 _ (heap_alloc2_old _ _ _) rfl ?_; intro W1 hr1 ho1 hb1 hsz; clear hsz; have h1 := Lib.hid ((ho1 (w2.heap.size + 1) (by omega)).trans (heap_alloc2_new _ _ _)); have R1 := Lib.hid hr1; clear ho1 hr1) | (refine store_arr_any rfl _ _ rfl (w2.heap.size + 1) _ rfl rfl 54 _ h1.out rfl ?_; intro W2 hr2 ho2 hb2 hsz; clear hsz; have hF : F2 w w2.heap.size (w2.heap.size + 1) (bvV (B64 a)) (bvV (B64 b)) W2 := f2_start g1 g2 R1.out hb1 hr2 ho2 hb2; have F := Lib.hid hF; clear hr2 ho2 hb2 hF R1 h1 hb1))
  have hs : F2 w w2.heap.size (w2.heap.size + 1) (bvV (B64 a)) (bvV (B64 b)) W2 := F.out
  rw [abs_pos a ha, abs_pos b hb] at hs
  have hD : DivAt w w2.heap.size (w2.heap.size + 1) W2.heap.size (W2.heap.size + 1) a b 64 ((W2.alloc (.cells (arrV offV) 54)).alloc (.cells (arrV offV) 54)) := by
    unfold DivAt
    rw [quo_start, rest_start' _ _ hX]
    exact F4.start hs
  clear hs
  rw [arr_zero] at hD
  generalize hbx : w2.heap.size = bx at *
  generalize hb2 : bx + 1 = b2 at *
  generalize hbq : W2.heap.size = bq at *
  generalize hbr : bq + 1 = br at *
  have HD := Lib.hid hD
  clear hD hbx hb2 hbq hbr
  go_loopw [10] (fun i wr => ∃ k : Nat, k ≤ 64 ∧ i = .int .i64 ((k : Int) - 1) ∧ DivAt w bx b2 bq br a b k wr) (fun i _ => (intOf i + 1).toNat)
  case atStart => exact ⟨64, by omega, rfl, HD.out⟩
  case round =>
    obtain ⟨k, hk, rfl, hK⟩ := hrel
    clear HD F g1 g2
    by_cases hlt : 0 < k
    · obtain ⟨j, rfl⟩ : ∃ j, k = j + 1 := ⟨k - 1, by omega⟩
      rw [show ((j + 1 : Nat) : Int) - 1 = (j : Int) by omega]
      have e1 : (0 : Int) ≤ (j : Int) := by omega
      have e2 : (j : Int) < 64 := by omega
      have hj : j < 64 := by omega
      unfold DivAt at hK
      have c63 := (spot hK.hr (j := 63) (by decide)).1
      rw [rest_top _ _ _ hY hY2] at c63
      obtain ⟨p, hp⟩ : ∃ p, p = a.natAbs.testBit j := ⟨_, rfl⟩
      have hnr := next_row a.natAbs b.natAbs j
      rw [← hp] at hnr
      have hpx : (absB a).getLsbD j = p := by unfold absB; rw [BitVec.getLsbD_ofNat, decide_eq_true hj, Bool.true_and, hp]
      have HNR := Lib.hid hnr
      have HPX := Lib.hid hpx
      have HK := Lib.hid hK
      clear hp hnr hpx hK
      go_wp2_with (first | (refine wpList_load_row rfl 54 _ rfl br rfl 54 _ (0, 0) _ HK.out.hr Try.underlying54 rfl (info_arrV _) ?_) | (go_at_call 39; refine (moved_1 _ _).mono ?_; rintro e v1 ⟨rfl, g1⟩; have G := Lib.hid (HK.out.next g1); clear g1) | (refine store_arr_any rfl _ _ rfl br _ rfl rfl 54 _ G.out.hr (bvV_size _) ?_; intro W9 hr9 ho9 hb9 hsz; clear hsz; have H9 := Lib.hid (G.out.putr hr9 ho9 hb9); have cx := (spot H9.out.f.hx hj).1; rw [HPX.out] at cx; obtain ⟨cr0, fr0⟩ := spot H9.out.hr (j := 0) (by decide); have h10 := H9.out.setr 0 (.bool p); rw [show ((arrV (BitVec.ofNat 64 (restN a.natAbs b.natAbs (j + 1)) <<< 1).getLsbD).setIfInBounds 0 (Value.bool p)) = bvV (BitVec.ofNat 64 (nextN a.natAbs b.natAbs j)) from HNR.out] at h10; obtain ⟨f1, f2, f3, f4⟩ := h10.facts (bvV_size _) (bvV_size _); have H10 := Lib.hid h10; clear hr9 ho9 hb9 h10))
      by_cases hl : nextN a.natAbs b.natAbs j < b.natAbs
      · refine (less_yes _ _ _ (by rw [next_toNat _ _ _ hY hY2, HBT.out]; exact hl)).mono ?_
        rintro e v3 ⟨rfl, g3⟩
        have H11 := Lib.hid (H10.out.next g3)
        clear f1 f2 f3 f4 g3
        have HL := Lib.hid hl
        clear hl
        go_wp2_with fail
        go_roundw
        case rel => exact ⟨j, by omega, rfl, by unfold DivAt; rw [← quo_off _ _ _ hY HL.out, rest_less _ _ _ HL.out]; exact H11.out⟩
        case measure => simp [intOf]
      · refine (less_no _ _ _ (by rw [next_toNat _ _ _ hY hY2, HBT.out]; exact hl)).mono ?_
        rintro e v3 ⟨rfl, g3⟩
        have H11 := Lib.hid (H10.out.next g3).drew
        obtain ⟨a1, a2, a3, a4⟩ := H11.out.facts (bvV_size _) (bvV_size _)
        clear f1 f2 f3 f4 g3
        have HL := Lib.hid hl
        clear hl
        go_wp2_with fail
        go_region_with (first | (go_at_call 27; refine (rturned_any _ _).mono ?_; rintro e v4 ⟨rfl, g4⟩; have H12 := Lib.hid (H11.out.next g4); obtain ⟨b1, b3, b4, b5⟩ := H12.out.facts (bvV_size _) (bvV_size _); clear g4) | (go_at_call 26; refine (plus_any _ _ _).mono ?_; rintro e v5 ⟨rfl, g5⟩; have H13 := Lib.hid (H12.out.next g5); obtain ⟨d1, d2, d3, d4⟩ := H13.out.facts (bvV_size _) (bvV_size _); clear g5))
        all_goals
          have h14 := H13.out.row (bvV (BitVec.ofNat 64 (nextN a.natAbs b.natAbs j) + -absB b))
          obtain ⟨cq, fq⟩ := spot h14.hq hj
          have H15 := Lib.hid (h14.setq j (.bool true))
          clear h14
          go_wp2_with fail
          go_roundw
          case rel => exact ⟨j, by omega, rfl, by unfold DivAt; rw [← quo_on _ _ _ hY HL.out, ← next_sub _ _ _ hY HL.out]; exact H15.out⟩
          case measure => simp [intOf]
    · obtain rfl : k = 0 := by omega
      unfold DivAt at hK
      rw [quo_end, rest_end] at hK
      have HK := Lib.hid hK
      clear hK
      have da : decide (a < 0) = false := decide_eq_false (Int.not_lt.2 ha)
      have db : decide (b < 0) = false := decide_eq_false (Int.not_lt.2 hb)
      have eq0 : (BitVec.ofNat 64 (a.natAbs / b.natAbs)).toInt = q0 := by rw [HQ0.out, tdiv_abs, decide_eq_false (Int.not_lt.2 ha), decide_eq_false (Int.not_lt.2 hb), if_neg (by decide)]; exact nat_toInt _
      have em0 : (BitVec.ofNat 64 (a.natAbs % b.natAbs)).toInt = m0 := by rw [HM0.out, tmod_abs, if_neg (Int.not_lt.2 ha)]; exact nat_toInt _
      have EQ0 := Lib.hid eq0
      have EM0 := Lib.hid em0
      clear eq0 em0
      go_wp2_with fail
      have HD : Hid (F4 w bx b2 bq br (bvV (absB a)) (bvV (absB b)) (bvV (BitVec.ofNat 64 (a.natAbs / b.natAbs))) (bvV (BitVec.ofNat 64 (a.natAbs % b.natAbs))) wr.drew) := Lib.hid HK.out.drew
      obtain ⟨a1, a2, a3, a4⟩ := HD.out.factsq (bvV_size _) (bvV_size _)
      go_region_with (go_at_call 25; refine (rnumber_b _ _).mono ?_; rintro e v4 ⟨rfl, g4⟩; replace HD := Lib.hid (HD.out.next g4); obtain ⟨b1, b3, b4, b5⟩ := HD.out.factsq (bvV_size _) (bvV_size _); clear g4)
      all_goals
        go_wp2_with fail
        go_ret2
        exact ⟨ret_two EQ0.out EM0.out, HD.out.f.below⟩

attribute [local go_sem ↓] Go.wp_at_zero Go.wp_at_succ wp_load_arr wp_store_arr in
set_option maxHeartbeats 3200000 in
set_option maxRecDepth 100000 in
theorem divide_pn (a b : Int) (w : World) (hia : I64 a) (hib : I64 b) (_hb0 : b ≠ 0) (ha : 0 ≤ a) (hb : b < 0) :
    Calls Try.prog 29 #[.int .i64 a, .int .i64 b] w fun e w' => e = .returned (.tuple #[.int .i64 (wrap64 (a.tdiv b)), .int .i64 (wrap64 (a.tmod b))]) ∧ Below w.heap.size w w' := by
  have hY : 0 < b.natAbs := by omega
  have hY2 := abs_lt b hib
  have hX : a.natAbs < 2 ^ 64 := by have := abs_lt a hia; omega
  have HBT := Lib.hid (absB_toNat b hib)
  obtain ⟨q0, hq0⟩ : ∃ q0, q0 = wrap64 (a.tdiv b) := ⟨_, rfl⟩
  obtain ⟨m0, hm0⟩ : ∃ m0, m0 = wrap64 (a.tmod b) := ⟨_, rfl⟩
  rw [← hq0, ← hm0]
  have HQ0 := Lib.hid hq0
  have HM0 := Lib.hid hm0
  clear hia hib hq0 hm0
  go_enter Try.func29, Try.ntmps29
  go_wp2_with fail
  refine (cells_any a _).mono ?_
  rintro e w1 ⟨rfl, g1⟩
  go_wp2_with fail
  refine (cells_any b _).mono ?_
  rintro e w2 ⟨rfl, g2⟩
  go_wp2_with (first | (refine store_arr_any rfl _ _ rfl w2.heap.size _ rfl rfl 54 _ (heap_alloc2_old _ _ _) rfl ?_; intro W1 hr1 ho1 hb1 hsz; clear hsz; have h1 := Lib.hid ((ho1 (w2.heap.size + 1) (by omega)).trans (heap_alloc2_new _ _ _)); have R1 := Lib.hid hr1; clear ho1 hr1) | (refine store_arr_any rfl _ _ rfl (w2.heap.size + 1) _ rfl rfl 54 _ h1.out rfl ?_; intro W2 hr2 ho2 hb2 hsz; clear hsz; have hF : F2 w w2.heap.size (w2.heap.size + 1) (bvV (B64 a)) (bvV (B64 b)) W2 := f2_start g1 g2 R1.out hb1 hr2 ho2 hb2; have F := Lib.hid hF; clear hr2 ho2 hb2 hF R1 h1 hb1) | (refine wpList_load_row rfl 54 _ rfl (w2.heap.size + 1) rfl 54 _ (0, 0) _ F.out.hy Try.underlying54 rfl (info_arrV _) ?_) | (refine store_arr_any rfl _ _ rfl (w2.heap.size + 1) _ rfl rfl 54 _ F.out.hy (arrV_size _) ?_; intro W2 hr2 ho2 hb2 hsz; clear hsz; replace F := Lib.hid (F.out.puty hr2 ho2 hb2); clear hr2 ho2 hb2) | (go_at_call 27; refine (rturned_any _ _).mono ?_; rintro e v0 ⟨rfl, g0⟩; replace F := Lib.hid (F.out.next g0); clear g0))
  have hs : F2 w w2.heap.size (w2.heap.size + 1) (bvV (B64 a)) (bvV (-B64 b)) W2 := F.out
  rw [abs_pos a ha, abs_neg b hb] at hs
  have hD : DivAt w w2.heap.size (w2.heap.size + 1) W2.heap.size (W2.heap.size + 1) a b 64 ((W2.alloc (.cells (arrV offV) 54)).alloc (.cells (arrV offV) 54)) := by
    unfold DivAt
    rw [quo_start, rest_start' _ _ hX]
    exact F4.start hs
  clear hs
  rw [arr_zero] at hD
  generalize hbx : w2.heap.size = bx at *
  generalize hb2 : bx + 1 = b2 at *
  generalize hbq : W2.heap.size = bq at *
  generalize hbr : bq + 1 = br at *
  have HD := Lib.hid hD
  clear hD hbx hb2 hbq hbr
  go_loopw [10] (fun i wr => ∃ k : Nat, k ≤ 64 ∧ i = .int .i64 ((k : Int) - 1) ∧ DivAt w bx b2 bq br a b k wr) (fun i _ => (intOf i + 1).toNat)
  case atStart => exact ⟨64, by omega, rfl, HD.out⟩
  case round =>
    obtain ⟨k, hk, rfl, hK⟩ := hrel
    clear HD F g1 g2
    by_cases hlt : 0 < k
    · obtain ⟨j, rfl⟩ : ∃ j, k = j + 1 := ⟨k - 1, by omega⟩
      rw [show ((j + 1 : Nat) : Int) - 1 = (j : Int) by omega]
      have e1 : (0 : Int) ≤ (j : Int) := by omega
      have e2 : (j : Int) < 64 := by omega
      have hj : j < 64 := by omega
      unfold DivAt at hK
      have c63 := (spot hK.hr (j := 63) (by decide)).1
      rw [rest_top _ _ _ hY hY2] at c63
      obtain ⟨p, hp⟩ : ∃ p, p = a.natAbs.testBit j := ⟨_, rfl⟩
      have hnr := next_row a.natAbs b.natAbs j
      rw [← hp] at hnr
      have hpx : (absB a).getLsbD j = p := by unfold absB; rw [BitVec.getLsbD_ofNat, decide_eq_true hj, Bool.true_and, hp]
      have HNR := Lib.hid hnr
      have HPX := Lib.hid hpx
      have HK := Lib.hid hK
      clear hp hnr hpx hK
      go_wp2_with (first | (refine wpList_load_row rfl 54 _ rfl br rfl 54 _ (0, 0) _ HK.out.hr Try.underlying54 rfl (info_arrV _) ?_) | (go_at_call 39; refine (moved_1 _ _).mono ?_; rintro e v1 ⟨rfl, g1⟩; have G := Lib.hid (HK.out.next g1); clear g1) | (refine store_arr_any rfl _ _ rfl br _ rfl rfl 54 _ G.out.hr (bvV_size _) ?_; intro W9 hr9 ho9 hb9 hsz; clear hsz; have H9 := Lib.hid (G.out.putr hr9 ho9 hb9); have cx := (spot H9.out.f.hx hj).1; rw [HPX.out] at cx; obtain ⟨cr0, fr0⟩ := spot H9.out.hr (j := 0) (by decide); have h10 := H9.out.setr 0 (.bool p); rw [show ((arrV (BitVec.ofNat 64 (restN a.natAbs b.natAbs (j + 1)) <<< 1).getLsbD).setIfInBounds 0 (Value.bool p)) = bvV (BitVec.ofNat 64 (nextN a.natAbs b.natAbs j)) from HNR.out] at h10; obtain ⟨f1, f2, f3, f4⟩ := h10.facts (bvV_size _) (bvV_size _); have H10 := Lib.hid h10; clear hr9 ho9 hb9 h10))
      by_cases hl : nextN a.natAbs b.natAbs j < b.natAbs
      · refine (less_yes _ _ _ (by rw [next_toNat _ _ _ hY hY2, HBT.out]; exact hl)).mono ?_
        rintro e v3 ⟨rfl, g3⟩
        have H11 := Lib.hid (H10.out.next g3)
        clear f1 f2 f3 f4 g3
        have HL := Lib.hid hl
        clear hl
        go_wp2_with fail
        go_roundw
        case rel => exact ⟨j, by omega, rfl, by unfold DivAt; rw [← quo_off _ _ _ hY HL.out, rest_less _ _ _ HL.out]; exact H11.out⟩
        case measure => simp [intOf]
      · refine (less_no _ _ _ (by rw [next_toNat _ _ _ hY hY2, HBT.out]; exact hl)).mono ?_
        rintro e v3 ⟨rfl, g3⟩
        have H11 := Lib.hid (H10.out.next g3).drew
        obtain ⟨a1, a2, a3, a4⟩ := H11.out.facts (bvV_size _) (bvV_size _)
        clear f1 f2 f3 f4 g3
        have HL := Lib.hid hl
        clear hl
        go_wp2_with fail
        go_region_with (first | (go_at_call 27; refine (rturned_any _ _).mono ?_; rintro e v4 ⟨rfl, g4⟩; have H12 := Lib.hid (H11.out.next g4); obtain ⟨b1, b3, b4, b5⟩ := H12.out.facts (bvV_size _) (bvV_size _); clear g4) | (go_at_call 26; refine (plus_any _ _ _).mono ?_; rintro e v5 ⟨rfl, g5⟩; have H13 := Lib.hid (H12.out.next g5); obtain ⟨d1, d2, d3, d4⟩ := H13.out.facts (bvV_size _) (bvV_size _); clear g5))
        all_goals
          have h14 := H13.out.row (bvV (BitVec.ofNat 64 (nextN a.natAbs b.natAbs j) + -absB b))
          obtain ⟨cq, fq⟩ := spot h14.hq hj
          have H15 := Lib.hid (h14.setq j (.bool true))
          clear h14
          go_wp2_with fail
          go_roundw
          case rel => exact ⟨j, by omega, rfl, by unfold DivAt; rw [← quo_on _ _ _ hY HL.out, ← next_sub _ _ _ hY HL.out]; exact H15.out⟩
          case measure => simp [intOf]
    · obtain rfl : k = 0 := by omega
      unfold DivAt at hK
      rw [quo_end, rest_end] at hK
      have HK := Lib.hid hK
      clear hK
      have da : decide (a < 0) = false := decide_eq_false (Int.not_lt.2 ha)
      have db : decide (b < 0) = true := decide_eq_true hb
      have eq0 : (-BitVec.ofNat 64 (a.natAbs / b.natAbs)).toInt = q0 := by rw [HQ0.out, tdiv_abs, decide_eq_false (Int.not_lt.2 ha), decide_eq_true hb, if_pos (by decide)]; exact nat_neg_toInt _
      have em0 : (BitVec.ofNat 64 (a.natAbs % b.natAbs)).toInt = m0 := by rw [HM0.out, tmod_abs, if_neg (Int.not_lt.2 ha)]; exact nat_toInt _
      have EQ0 := Lib.hid eq0
      have EM0 := Lib.hid em0
      clear eq0 em0
      go_wp2_with (first | (refine wpList_load_row rfl 54 _ rfl bq rfl 54 _ (0, 0) _ HK.out.hq Try.underlying54 rfl (info_arrV _) ?_) | (refine store_arr_any rfl _ _ rfl bq _ rfl rfl 54 _ HK.out.hq (arrV_size _) ?_; intro W2 hr2 ho2 hb2 hsz; clear hsz; replace HK := Lib.hid (HK.out.putq hr2 ho2 hb2); clear hr2 ho2 hb2) | (go_at_call 27; refine (rturned_any _ _).mono ?_; rintro e v0 ⟨rfl, g0⟩; replace HK := Lib.hid (HK.out.next g0); clear g0))
      have HD : Hid (F4 w bx b2 bq br (bvV (absB a)) (bvV (absB b)) (bvV (-BitVec.ofNat 64 (a.natAbs / b.natAbs))) (bvV (BitVec.ofNat 64 (a.natAbs % b.natAbs))) W2.drew) := Lib.hid HK.out.drew
      obtain ⟨a1, a2, a3, a4⟩ := HD.out.factsq (bvV_size _) (bvV_size _)
      go_region_with (go_at_call 25; refine (rnumber_b _ _).mono ?_; rintro e v4 ⟨rfl, g4⟩; replace HD := Lib.hid (HD.out.next g4); obtain ⟨b1, b3, b4, b5⟩ := HD.out.factsq (bvV_size _) (bvV_size _); clear g4)
      all_goals
        go_wp2_with fail
        go_ret2
        exact ⟨ret_two EQ0.out EM0.out, HD.out.f.below⟩

attribute [local go_sem ↓] Go.wp_at_zero Go.wp_at_succ wp_load_arr wp_store_arr in
set_option maxHeartbeats 3200000 in
set_option maxRecDepth 100000 in
theorem divide_np (a b : Int) (w : World) (hia : I64 a) (hib : I64 b) (hb0 : b ≠ 0) (ha : a < 0) (hb : 0 ≤ b) :
    Calls Try.prog 29 #[.int .i64 a, .int .i64 b] w fun e w' => e = .returned (.tuple #[.int .i64 (wrap64 (a.tdiv b)), .int .i64 (wrap64 (a.tmod b))]) ∧ Below w.heap.size w w' := by
  have hY : 0 < b.natAbs := by omega
  have hY2 := abs_lt b hib
  have hX : a.natAbs < 2 ^ 64 := by have := abs_lt a hia; omega
  have HBT := Lib.hid (absB_toNat b hib)
  obtain ⟨q0, hq0⟩ : ∃ q0, q0 = wrap64 (a.tdiv b) := ⟨_, rfl⟩
  obtain ⟨m0, hm0⟩ : ∃ m0, m0 = wrap64 (a.tmod b) := ⟨_, rfl⟩
  rw [← hq0, ← hm0]
  have HQ0 := Lib.hid hq0
  have HM0 := Lib.hid hm0
  clear hia hib hb0 hq0 hm0
  go_enter Try.func29, Try.ntmps29
  go_wp2_with fail
  refine (cells_any a _).mono ?_
  rintro e w1 ⟨rfl, g1⟩
  go_wp2_with fail
  refine (cells_any b _).mono ?_
  rintro e w2 ⟨rfl, g2⟩
  go_wp2_with (first | (refine store_arr_any rfl _ _ rfl w2.heap.size _ rfl rfl 54 _ (heap_alloc2_old _ _ _) rfl ?_; intro W1 hr1 ho1 hb1 hsz; clear hsz; have h1 := Lib.hid ((ho1 (w2.heap.size + 1) (by omega)).trans (heap_alloc2_new _ _ _)); have R1 := Lib.hid hr1; clear ho1 hr1) | (refine store_arr_any rfl _ _ rfl (w2.heap.size + 1) _ rfl rfl 54 _ h1.out rfl ?_; intro W2 hr2 ho2 hb2 hsz; clear hsz; have hF : F2 w w2.heap.size (w2.heap.size + 1) (bvV (B64 a)) (bvV (B64 b)) W2 := f2_start g1 g2 R1.out hb1 hr2 ho2 hb2; have F := Lib.hid hF; clear hr2 ho2 hb2 hF R1 h1 hb1) | (refine wpList_load_row rfl 54 _ rfl w2.heap.size rfl 54 _ (0, 0) _ F.out.hx Try.underlying54 rfl (info_arrV _) ?_) | (refine store_arr_any rfl _ _ rfl w2.heap.size _ rfl rfl 54 _ F.out.hx (arrV_size _) ?_; intro W2 hr2 ho2 hb2 hsz; clear hsz; replace F := Lib.hid (F.out.putx hr2 ho2 hb2); clear hr2 ho2 hb2) | (go_at_call 27; refine (rturned_any _ _).mono ?_; rintro e v0 ⟨rfl, g0⟩; replace F := Lib.hid (F.out.next g0); clear g0))
  have hs : F2 w w2.heap.size (w2.heap.size + 1) (bvV (-B64 a)) (bvV (B64 b)) W2 := F.out
  rw [abs_neg a ha, abs_pos b hb] at hs
  have hD : DivAt w w2.heap.size (w2.heap.size + 1) W2.heap.size (W2.heap.size + 1) a b 64 ((W2.alloc (.cells (arrV offV) 54)).alloc (.cells (arrV offV) 54)) := by
    unfold DivAt
    rw [quo_start, rest_start' _ _ hX]
    exact F4.start hs
  clear hs
  rw [arr_zero] at hD
  generalize hbx : w2.heap.size = bx at *
  generalize hb2 : bx + 1 = b2 at *
  generalize hbq : W2.heap.size = bq at *
  generalize hbr : bq + 1 = br at *
  have HD := Lib.hid hD
  clear hD hbx hb2 hbq hbr
  go_loopw [10] (fun i wr => ∃ k : Nat, k ≤ 64 ∧ i = .int .i64 ((k : Int) - 1) ∧ DivAt w bx b2 bq br a b k wr) (fun i _ => (intOf i + 1).toNat)
  case atStart => exact ⟨64, by omega, rfl, HD.out⟩
  case round =>
    obtain ⟨k, hk, rfl, hK⟩ := hrel
    clear HD F g1 g2
    by_cases hlt : 0 < k
    · obtain ⟨j, rfl⟩ : ∃ j, k = j + 1 := ⟨k - 1, by omega⟩
      rw [show ((j + 1 : Nat) : Int) - 1 = (j : Int) by omega]
      have e1 : (0 : Int) ≤ (j : Int) := by omega
      have e2 : (j : Int) < 64 := by omega
      have hj : j < 64 := by omega
      unfold DivAt at hK
      have c63 := (spot hK.hr (j := 63) (by decide)).1
      rw [rest_top _ _ _ hY hY2] at c63
      obtain ⟨p, hp⟩ : ∃ p, p = a.natAbs.testBit j := ⟨_, rfl⟩
      have hnr := next_row a.natAbs b.natAbs j
      rw [← hp] at hnr
      have hpx : (absB a).getLsbD j = p := by unfold absB; rw [BitVec.getLsbD_ofNat, decide_eq_true hj, Bool.true_and, hp]
      have HNR := Lib.hid hnr
      have HPX := Lib.hid hpx
      have HK := Lib.hid hK
      clear hp hnr hpx hK
      go_wp2_with (first | (refine wpList_load_row rfl 54 _ rfl br rfl 54 _ (0, 0) _ HK.out.hr Try.underlying54 rfl (info_arrV _) ?_) | (go_at_call 39; refine (moved_1 _ _).mono ?_; rintro e v1 ⟨rfl, g1⟩; have G := Lib.hid (HK.out.next g1); clear g1) | (refine store_arr_any rfl _ _ rfl br _ rfl rfl 54 _ G.out.hr (bvV_size _) ?_; intro W9 hr9 ho9 hb9 hsz; clear hsz; have H9 := Lib.hid (G.out.putr hr9 ho9 hb9); have cx := (spot H9.out.f.hx hj).1; rw [HPX.out] at cx; obtain ⟨cr0, fr0⟩ := spot H9.out.hr (j := 0) (by decide); have h10 := H9.out.setr 0 (.bool p); rw [show ((arrV (BitVec.ofNat 64 (restN a.natAbs b.natAbs (j + 1)) <<< 1).getLsbD).setIfInBounds 0 (Value.bool p)) = bvV (BitVec.ofNat 64 (nextN a.natAbs b.natAbs j)) from HNR.out] at h10; obtain ⟨f1, f2, f3, f4⟩ := h10.facts (bvV_size _) (bvV_size _); have H10 := Lib.hid h10; clear hr9 ho9 hb9 h10))
      by_cases hl : nextN a.natAbs b.natAbs j < b.natAbs
      · refine (less_yes _ _ _ (by rw [next_toNat _ _ _ hY hY2, HBT.out]; exact hl)).mono ?_
        rintro e v3 ⟨rfl, g3⟩
        have H11 := Lib.hid (H10.out.next g3)
        clear f1 f2 f3 f4 g3
        have HL := Lib.hid hl
        clear hl
        go_wp2_with fail
        go_roundw
        case rel => exact ⟨j, by omega, rfl, by unfold DivAt; rw [← quo_off _ _ _ hY HL.out, rest_less _ _ _ HL.out]; exact H11.out⟩
        case measure => simp [intOf]
      · refine (less_no _ _ _ (by rw [next_toNat _ _ _ hY hY2, HBT.out]; exact hl)).mono ?_
        rintro e v3 ⟨rfl, g3⟩
        have H11 := Lib.hid (H10.out.next g3).drew
        obtain ⟨a1, a2, a3, a4⟩ := H11.out.facts (bvV_size _) (bvV_size _)
        clear f1 f2 f3 f4 g3
        have HL := Lib.hid hl
        clear hl
        go_wp2_with fail
        go_region_with (first | (go_at_call 27; refine (rturned_any _ _).mono ?_; rintro e v4 ⟨rfl, g4⟩; have H12 := Lib.hid (H11.out.next g4); obtain ⟨b1, b3, b4, b5⟩ := H12.out.facts (bvV_size _) (bvV_size _); clear g4) | (go_at_call 26; refine (plus_any _ _ _).mono ?_; rintro e v5 ⟨rfl, g5⟩; have H13 := Lib.hid (H12.out.next g5); obtain ⟨d1, d2, d3, d4⟩ := H13.out.facts (bvV_size _) (bvV_size _); clear g5))
        all_goals
          have h14 := H13.out.row (bvV (BitVec.ofNat 64 (nextN a.natAbs b.natAbs j) + -absB b))
          obtain ⟨cq, fq⟩ := spot h14.hq hj
          have H15 := Lib.hid (h14.setq j (.bool true))
          clear h14
          go_wp2_with fail
          go_roundw
          case rel => exact ⟨j, by omega, rfl, by unfold DivAt; rw [← quo_on _ _ _ hY HL.out, ← next_sub _ _ _ hY HL.out]; exact H15.out⟩
          case measure => simp [intOf]
    · obtain rfl : k = 0 := by omega
      unfold DivAt at hK
      rw [quo_end, rest_end] at hK
      have HK := Lib.hid hK
      clear hK
      have da : decide (a < 0) = true := decide_eq_true ha
      have db : decide (b < 0) = false := decide_eq_false (Int.not_lt.2 hb)
      have eq0 : (-BitVec.ofNat 64 (a.natAbs / b.natAbs)).toInt = q0 := by rw [HQ0.out, tdiv_abs, decide_eq_true ha, decide_eq_false (Int.not_lt.2 hb), if_pos (by decide)]; exact nat_neg_toInt _
      have em0 : (-BitVec.ofNat 64 (a.natAbs % b.natAbs)).toInt = m0 := by rw [HM0.out, tmod_abs, if_pos ha]; exact nat_neg_toInt _
      have EQ0 := Lib.hid eq0
      have EM0 := Lib.hid em0
      clear eq0 em0
      go_wp2_with (first | (refine wpList_load_row rfl 54 _ rfl bq rfl 54 _ (0, 0) _ HK.out.hq Try.underlying54 rfl (info_arrV _) ?_) | (refine store_arr_any rfl _ _ rfl bq _ rfl rfl 54 _ HK.out.hq (arrV_size _) ?_; intro W2 hr2 ho2 hb2 hsz; clear hsz; replace HK := Lib.hid (HK.out.putq hr2 ho2 hb2); clear hr2 ho2 hb2) | (refine wpList_load_row rfl 54 _ rfl br rfl 54 _ (0, 0) _ HK.out.hr Try.underlying54 rfl (info_arrV _) ?_) | (refine store_arr_any rfl _ _ rfl br _ rfl rfl 54 _ HK.out.hr (arrV_size _) ?_; intro W2 hr2 ho2 hb2 hsz; clear hsz; replace HK := Lib.hid (HK.out.putr hr2 ho2 hb2); clear hr2 ho2 hb2) | (go_at_call 27; refine (rturned_any _ _).mono ?_; rintro e v0 ⟨rfl, g0⟩; replace HK := Lib.hid (HK.out.next g0); clear g0))
      have HD : Hid (F4 w bx b2 bq br (bvV (absB a)) (bvV (absB b)) (bvV (-BitVec.ofNat 64 (a.natAbs / b.natAbs))) (bvV (-BitVec.ofNat 64 (a.natAbs % b.natAbs))) W2.drew) := Lib.hid HK.out.drew
      obtain ⟨a1, a2, a3, a4⟩ := HD.out.factsq (bvV_size _) (bvV_size _)
      go_region_with (go_at_call 25; refine (rnumber_b _ _).mono ?_; rintro e v4 ⟨rfl, g4⟩; replace HD := Lib.hid (HD.out.next g4); obtain ⟨b1, b3, b4, b5⟩ := HD.out.factsq (bvV_size _) (bvV_size _); clear g4)
      all_goals
        go_wp2_with fail
        go_ret2
        exact ⟨ret_two EQ0.out EM0.out, HD.out.f.below⟩

attribute [local go_sem ↓] Go.wp_at_zero Go.wp_at_succ wp_load_arr wp_store_arr in
set_option maxHeartbeats 3200000 in
set_option maxRecDepth 100000 in
theorem divide_nn (a b : Int) (w : World) (hia : I64 a) (hib : I64 b) (_hb0 : b ≠ 0) (ha : a < 0) (hb : b < 0) :
    Calls Try.prog 29 #[.int .i64 a, .int .i64 b] w fun e w' => e = .returned (.tuple #[.int .i64 (wrap64 (a.tdiv b)), .int .i64 (wrap64 (a.tmod b))]) ∧ Below w.heap.size w w' := by
  have hY : 0 < b.natAbs := by omega
  have hY2 := abs_lt b hib
  have hX : a.natAbs < 2 ^ 64 := by have := abs_lt a hia; omega
  have HBT := Lib.hid (absB_toNat b hib)
  obtain ⟨q0, hq0⟩ : ∃ q0, q0 = wrap64 (a.tdiv b) := ⟨_, rfl⟩
  obtain ⟨m0, hm0⟩ : ∃ m0, m0 = wrap64 (a.tmod b) := ⟨_, rfl⟩
  rw [← hq0, ← hm0]
  have HQ0 := Lib.hid hq0
  have HM0 := Lib.hid hm0
  clear hia hib hq0 hm0
  go_enter Try.func29, Try.ntmps29
  go_wp2_with fail
  refine (cells_any a _).mono ?_
  rintro e w1 ⟨rfl, g1⟩
  go_wp2_with fail
  refine (cells_any b _).mono ?_
  rintro e w2 ⟨rfl, g2⟩
  go_wp2_with (first | (refine store_arr_any rfl _ _ rfl w2.heap.size _ rfl rfl 54 _ (heap_alloc2_old _ _ _) rfl ?_; intro W1 hr1 ho1 hb1 hsz; clear hsz; have h1 := Lib.hid ((ho1 (w2.heap.size + 1) (by omega)).trans (heap_alloc2_new _ _ _)); have R1 := Lib.hid hr1; clear ho1 hr1) | (refine store_arr_any rfl _ _ rfl (w2.heap.size + 1) _ rfl rfl 54 _ h1.out rfl ?_; intro W2 hr2 ho2 hb2 hsz; clear hsz; have hF : F2 w w2.heap.size (w2.heap.size + 1) (bvV (B64 a)) (bvV (B64 b)) W2 := f2_start g1 g2 R1.out hb1 hr2 ho2 hb2; have F := Lib.hid hF; clear hr2 ho2 hb2 hF R1 h1 hb1) | (refine wpList_load_row rfl 54 _ rfl w2.heap.size rfl 54 _ (0, 0) _ F.out.hx Try.underlying54 rfl (info_arrV _) ?_) | (refine store_arr_any rfl _ _ rfl w2.heap.size _ rfl rfl 54 _ F.out.hx (arrV_size _) ?_; intro W2 hr2 ho2 hb2 hsz; clear hsz; replace F := Lib.hid (F.out.putx hr2 ho2 hb2); clear hr2 ho2 hb2) | (refine wpList_load_row rfl 54 _ rfl (w2.heap.size + 1) rfl 54 _ (0, 0) _ F.out.hy Try.underlying54 rfl (info_arrV _) ?_) | (refine store_arr_any rfl _ _ rfl (w2.heap.size + 1) _ rfl rfl 54 _ F.out.hy (arrV_size _) ?_; intro W2 hr2 ho2 hb2 hsz; clear hsz; replace F := Lib.hid (F.out.puty hr2 ho2 hb2); clear hr2 ho2 hb2) | (go_at_call 27; refine (rturned_any _ _).mono ?_; rintro e v0 ⟨rfl, g0⟩; replace F := Lib.hid (F.out.next g0); clear g0))
  have hs : F2 w w2.heap.size (w2.heap.size + 1) (bvV (-B64 a)) (bvV (-B64 b)) W2 := F.out
  rw [abs_neg a ha, abs_neg b hb] at hs
  have hD : DivAt w w2.heap.size (w2.heap.size + 1) W2.heap.size (W2.heap.size + 1) a b 64 ((W2.alloc (.cells (arrV offV) 54)).alloc (.cells (arrV offV) 54)) := by
    unfold DivAt
    rw [quo_start, rest_start' _ _ hX]
    exact F4.start hs
  clear hs
  rw [arr_zero] at hD
  generalize hbx : w2.heap.size = bx at *
  generalize hb2 : bx + 1 = b2 at *
  generalize hbq : W2.heap.size = bq at *
  generalize hbr : bq + 1 = br at *
  have HD := Lib.hid hD
  clear hD hbx hb2 hbq hbr
  go_loopw [10] (fun i wr => ∃ k : Nat, k ≤ 64 ∧ i = .int .i64 ((k : Int) - 1) ∧ DivAt w bx b2 bq br a b k wr) (fun i _ => (intOf i + 1).toNat)
  case atStart => exact ⟨64, by omega, rfl, HD.out⟩
  case round =>
    obtain ⟨k, hk, rfl, hK⟩ := hrel
    clear HD F g1 g2
    by_cases hlt : 0 < k
    · obtain ⟨j, rfl⟩ : ∃ j, k = j + 1 := ⟨k - 1, by omega⟩
      rw [show ((j + 1 : Nat) : Int) - 1 = (j : Int) by omega]
      have e1 : (0 : Int) ≤ (j : Int) := by omega
      have e2 : (j : Int) < 64 := by omega
      have hj : j < 64 := by omega
      unfold DivAt at hK
      have c63 := (spot hK.hr (j := 63) (by decide)).1
      rw [rest_top _ _ _ hY hY2] at c63
      obtain ⟨p, hp⟩ : ∃ p, p = a.natAbs.testBit j := ⟨_, rfl⟩
      have hnr := next_row a.natAbs b.natAbs j
      rw [← hp] at hnr
      have hpx : (absB a).getLsbD j = p := by unfold absB; rw [BitVec.getLsbD_ofNat, decide_eq_true hj, Bool.true_and, hp]
      have HNR := Lib.hid hnr
      have HPX := Lib.hid hpx
      have HK := Lib.hid hK
      clear hp hnr hpx hK
      go_wp2_with (first | (refine wpList_load_row rfl 54 _ rfl br rfl 54 _ (0, 0) _ HK.out.hr Try.underlying54 rfl (info_arrV _) ?_) | (go_at_call 39; refine (moved_1 _ _).mono ?_; rintro e v1 ⟨rfl, g1⟩; have G := Lib.hid (HK.out.next g1); clear g1) | (refine store_arr_any rfl _ _ rfl br _ rfl rfl 54 _ G.out.hr (bvV_size _) ?_; intro W9 hr9 ho9 hb9 hsz; clear hsz; have H9 := Lib.hid (G.out.putr hr9 ho9 hb9); have cx := (spot H9.out.f.hx hj).1; rw [HPX.out] at cx; obtain ⟨cr0, fr0⟩ := spot H9.out.hr (j := 0) (by decide); have h10 := H9.out.setr 0 (.bool p); rw [show ((arrV (BitVec.ofNat 64 (restN a.natAbs b.natAbs (j + 1)) <<< 1).getLsbD).setIfInBounds 0 (Value.bool p)) = bvV (BitVec.ofNat 64 (nextN a.natAbs b.natAbs j)) from HNR.out] at h10; obtain ⟨f1, f2, f3, f4⟩ := h10.facts (bvV_size _) (bvV_size _); have H10 := Lib.hid h10; clear hr9 ho9 hb9 h10))
      by_cases hl : nextN a.natAbs b.natAbs j < b.natAbs
      · refine (less_yes _ _ _ (by rw [next_toNat _ _ _ hY hY2, HBT.out]; exact hl)).mono ?_
        rintro e v3 ⟨rfl, g3⟩
        have H11 := Lib.hid (H10.out.next g3)
        clear f1 f2 f3 f4 g3
        have HL := Lib.hid hl
        clear hl
        go_wp2_with fail
        go_roundw
        case rel => exact ⟨j, by omega, rfl, by unfold DivAt; rw [← quo_off _ _ _ hY HL.out, rest_less _ _ _ HL.out]; exact H11.out⟩
        case measure => simp [intOf]
      · refine (less_no _ _ _ (by rw [next_toNat _ _ _ hY hY2, HBT.out]; exact hl)).mono ?_
        rintro e v3 ⟨rfl, g3⟩
        have H11 := Lib.hid (H10.out.next g3).drew
        obtain ⟨a1, a2, a3, a4⟩ := H11.out.facts (bvV_size _) (bvV_size _)
        clear f1 f2 f3 f4 g3
        have HL := Lib.hid hl
        clear hl
        go_wp2_with fail
        go_region_with (first | (go_at_call 27; refine (rturned_any _ _).mono ?_; rintro e v4 ⟨rfl, g4⟩; have H12 := Lib.hid (H11.out.next g4); obtain ⟨b1, b3, b4, b5⟩ := H12.out.facts (bvV_size _) (bvV_size _); clear g4) | (go_at_call 26; refine (plus_any _ _ _).mono ?_; rintro e v5 ⟨rfl, g5⟩; have H13 := Lib.hid (H12.out.next g5); obtain ⟨d1, d2, d3, d4⟩ := H13.out.facts (bvV_size _) (bvV_size _); clear g5))
        all_goals
          have h14 := H13.out.row (bvV (BitVec.ofNat 64 (nextN a.natAbs b.natAbs j) + -absB b))
          obtain ⟨cq, fq⟩ := spot h14.hq hj
          have H15 := Lib.hid (h14.setq j (.bool true))
          clear h14
          go_wp2_with fail
          go_roundw
          case rel => exact ⟨j, by omega, rfl, by unfold DivAt; rw [← quo_on _ _ _ hY HL.out, ← next_sub _ _ _ hY HL.out]; exact H15.out⟩
          case measure => simp [intOf]
    · obtain rfl : k = 0 := by omega
      unfold DivAt at hK
      rw [quo_end, rest_end] at hK
      have HK := Lib.hid hK
      clear hK
      have da : decide (a < 0) = true := decide_eq_true ha
      have db : decide (b < 0) = true := decide_eq_true hb
      have eq0 : (BitVec.ofNat 64 (a.natAbs / b.natAbs)).toInt = q0 := by rw [HQ0.out, tdiv_abs, decide_eq_true ha, decide_eq_true hb, if_neg (by decide)]; exact nat_toInt _
      have em0 : (-BitVec.ofNat 64 (a.natAbs % b.natAbs)).toInt = m0 := by rw [HM0.out, tmod_abs, if_pos ha]; exact nat_neg_toInt _
      have EQ0 := Lib.hid eq0
      have EM0 := Lib.hid em0
      clear eq0 em0
      go_wp2_with (first | (refine wpList_load_row rfl 54 _ rfl br rfl 54 _ (0, 0) _ HK.out.hr Try.underlying54 rfl (info_arrV _) ?_) | (refine store_arr_any rfl _ _ rfl br _ rfl rfl 54 _ HK.out.hr (arrV_size _) ?_; intro W2 hr2 ho2 hb2 hsz; clear hsz; replace HK := Lib.hid (HK.out.putr hr2 ho2 hb2); clear hr2 ho2 hb2) | (go_at_call 27; refine (rturned_any _ _).mono ?_; rintro e v0 ⟨rfl, g0⟩; replace HK := Lib.hid (HK.out.next g0); clear g0))
      have HD : Hid (F4 w bx b2 bq br (bvV (absB a)) (bvV (absB b)) (bvV (BitVec.ofNat 64 (a.natAbs / b.natAbs))) (bvV (-BitVec.ofNat 64 (a.natAbs % b.natAbs))) W2.drew) := Lib.hid HK.out.drew
      obtain ⟨a1, a2, a3, a4⟩ := HD.out.factsq (bvV_size _) (bvV_size _)
      go_region_with (go_at_call 25; refine (rnumber_b _ _).mono ?_; rintro e v4 ⟨rfl, g4⟩; replace HD := Lib.hid (HD.out.next g4); obtain ⟨b1, b3, b4, b5⟩ := HD.out.factsq (bvV_size _) (bvV_size _); clear g4)
      all_goals
        go_wp2_with fail
        go_ret2
        exact ⟨ret_two EQ0.out EM0.out, HD.out.f.below⟩

theorem divide_any (a b : Int) (w : World) (hia : I64 a) (hib : I64 b) (hb0 : b ≠ 0) :
    Calls Try.prog 29 #[.int .i64 a, .int .i64 b] w fun e w' => e = .returned (.tuple #[.int .i64 (wrap64 (a.tdiv b)), .int .i64 (wrap64 (a.tmod b))]) ∧ Below w.heap.size w w' := by
  by_cases ha : a < 0 <;> by_cases hb : b < 0
  · exact divide_nn a b w hia hib hb0 ha hb
  · exact divide_np a b w hia hib hb0 ha (Int.not_lt.1 hb)
  · exact divide_pn a b w hia hib hb0 (Int.not_lt.1 ha) hb
  · exact divide_pp a b w hia hib hb0 (Int.not_lt.1 ha) (Int.not_lt.1 hb)
end Go.Proofs.Ytonpbbflloljgaa
