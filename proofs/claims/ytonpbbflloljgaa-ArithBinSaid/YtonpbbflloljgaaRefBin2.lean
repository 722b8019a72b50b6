/-
  The walks of the reference's Bin, op by op: division, bits, shifts, and what is no op of two.
-/
import Derived.Test.YtonpbbflloljgaaRefBin
import Derived.StillTailTactics
namespace Go.Proofs.Ytonpbbflloljgaa
open Go.RowKit

theorem divide_c (a b q m : Int) (w : World) (hia : I64 a) (hib : I64 b) (hb0 : b ≠ 0) (hq : wrap64 (a.tdiv b) = q) (hm : wrap64 (a.tmod b) = m) :
    Calls Try.prog 29 #[.int .i64 a, .int .i64 b] w fun e w' => e = .returned (.tuple #[.int .i64 q, .int .i64 m]) ∧ Below w.heap.size w w' := by
  rw [← hq, ← hm]; exact divide_any a b w hia hib hb0
theorem tmod_in (a b : Int) (h : I64 a) : I64 (a.tmod b) := by
  have h1 := Int.natAbs_tmod a b
  have h2 : (a.tmod b).natAbs ≤ a.natAbs := by rw [h1]; exact Nat.mod_le _ _
  by_cases ha : a < 0
  · have h3 : 0 ≤ (-a).tmod b := Int.tmod_nonneg b (by omega)
    rw [Int.neg_tmod] at h3
    unfold I64 at h ⊢; omega
  · have h3 : 0 ≤ a.tmod b := Int.tmod_nonneg b (by omega)
    unfold I64 at h ⊢; omega
theorem binV_4' (a b : Int) (h : b ≠ 0) : binV 4 a b = wrap64 (a.tdiv b) := (bin_made 4 a b (by unfold wayV; simp [h])).trans rfl
theorem binV_5' (a b : Int) (h : b ≠ 0) : binV 5 a b = a.tmod b := (bin_made 5 a b (by unfold wayV; simp [h])).trans rfl
theorem div_way' (op b : Int) (ho : op = 4 ∨ op = 5) (h : b ≠ 0) : wayV op b = 0 := by unfold wayV; rw [if_pos ho, if_neg h]

set_option maxHeartbeats 1600000 in
set_option maxRecDepth 100000 in
theorem rbin_4 (a b : Int) (w : World) (ha : I64 a) (hb : I64 b) :
    Calls Try.prog 14 #[.int .i64 4, .int .i64 a, .int .i64 b] w fun e w' => e = .returned (.tuple #[.int .i64 (binV 4 a b), .int .i64 (wayV 4 b)]) ∧ Below w.heap.size w w' := by
  by_cases h0 : b = 0
  · subst h0
    rw [show binV 4 a 0 = 0 from rfl, show wayV 4 0 = 3 from rfl]
    clear ha hb
    go_enter Try.func14, Try.ntmps14
    go_wp2_with fail
    refine (cells_any a _).mono ?_
    rintro e w1 ⟨rfl, g1⟩
    go_wp2_with fail
    refine (cells_any 0 _).mono ?_
    rintro e w2 ⟨rfl, g2⟩
    go_wp2_with (first | (refine store_arr_any rfl _ _ rfl w2.heap.size _ rfl rfl 54 _ (heap_alloc2_old _ _ _) rfl ?_; intro W1 hr1 ho1 hb1 hsz; clear hsz; have h1 := Lib.hid ((ho1 (w2.heap.size + 1) (by omega)).trans (heap_alloc2_new _ _ _)); have R1 := Lib.hid hr1; clear ho1 hr1) | (refine store_arr_any rfl _ _ rfl (w2.heap.size + 1) _ rfl rfl 54 _ h1.out rfl ?_; intro W2 hr2 ho2 hb2 hsz; clear hsz; have hF : F2 w w2.heap.size (w2.heap.size + 1) (bvV (B64 a)) (bvV (B64 0)) W2 := f2_start g1 g2 R1.out hb1 hr2 ho2 hb2; have F := Lib.hid hF; clear hr2 ho2 hb2 hF R1 h1 hb1))
    go_ret2
    exact ⟨rfl, F.out.below⟩
  · obtain ⟨n0, hn0⟩ : ∃ n0, n0 = binV 4 a b := ⟨_, rfl⟩
    rw [← hn0, div_way' 4 b (by decide) h0]
    obtain ⟨m0, hm0⟩ : ∃ m0, m0 = wrap64 (a.tmod b) := ⟨_, rfl⟩
    have HD : Hid (∀ w, Calls Try.prog 29 #[.int .i64 a, .int .i64 b] w fun e w' => e = .returned (.tuple #[.int .i64 n0, .int .i64 m0]) ∧ Below w.heap.size w w') := Lib.hid (fun w => divide_c a b _ _ w ha hb h0 (by rw [hn0, binV_4' a b h0]) hm0.symm)
    have t0 : (b == 0) = false := by rw [beq_eq_false_iff_ne]; exact h0
    clear ha hb h0 hn0 hm0
    go_enter Try.func14, Try.ntmps14
    go_wp2_with fail
    refine (cells_any a _).mono ?_
    rintro e w1 ⟨rfl, g1⟩
    go_wp2_with fail
    refine (cells_any b _).mono ?_
    rintro e w2 ⟨rfl, g2⟩
    go_wp2_with (first | (refine store_arr_any rfl _ _ rfl w2.heap.size _ rfl rfl 54 _ (heap_alloc2_old _ _ _) rfl ?_; intro W1 hr1 ho1 hb1 hsz; clear hsz; have h1 := Lib.hid ((ho1 (w2.heap.size + 1) (by omega)).trans (heap_alloc2_new _ _ _)); have R1 := Lib.hid hr1; clear ho1 hr1) | (refine store_arr_any rfl _ _ rfl (w2.heap.size + 1) _ rfl rfl 54 _ h1.out rfl ?_; intro W2 hr2 ho2 hb2 hsz; clear hsz; have hF : F2 w w2.heap.size (w2.heap.size + 1) (bvV (B64 a)) (bvV (B64 b)) W2 := f2_start g1 g2 R1.out hb1 hr2 ho2 hb2; have F := Lib.hid hF; clear hr2 ho2 hb2 hF R1 h1 hb1) | (go_at_call 29; refine (HD.out _).mono ?_; rintro e v0 ⟨rfl, g0⟩; replace F := Lib.hid (F.out.next g0); clear g0))
    go_ret2
    exact ⟨rfl, F.out.below⟩

set_option maxHeartbeats 1600000 in
set_option maxRecDepth 100000 in
theorem rbin_5 (a b : Int) (w : World) (ha : I64 a) (hb : I64 b) :
    Calls Try.prog 14 #[.int .i64 5, .int .i64 a, .int .i64 b] w fun e w' => e = .returned (.tuple #[.int .i64 (binV 5 a b), .int .i64 (wayV 5 b)]) ∧ Below w.heap.size w w' := by
  by_cases h0 : b = 0
  · subst h0
    rw [show binV 5 a 0 = 0 from rfl, show wayV 5 0 = 3 from rfl]
    clear ha hb
    go_enter Try.func14, Try.ntmps14
    go_wp2_with fail
    refine (cells_any a _).mono ?_
    rintro e w1 ⟨rfl, g1⟩
    go_wp2_with fail
    refine (cells_any 0 _).mono ?_
    rintro e w2 ⟨rfl, g2⟩
    go_wp2_with (first | (refine store_arr_any rfl _ _ rfl w2.heap.size _ rfl rfl 54 _ (heap_alloc2_old _ _ _) rfl ?_; intro W1 hr1 ho1 hb1 hsz; clear hsz; have h1 := Lib.hid ((ho1 (w2.heap.size + 1) (by omega)).trans (heap_alloc2_new _ _ _)); have R1 := Lib.hid hr1; clear ho1 hr1) | (refine store_arr_any rfl _ _ rfl (w2.heap.size + 1) _ rfl rfl 54 _ h1.out rfl ?_; intro W2 hr2 ho2 hb2 hsz; clear hsz; have hF : F2 w w2.heap.size (w2.heap.size + 1) (bvV (B64 a)) (bvV (B64 0)) W2 := f2_start g1 g2 R1.out hb1 hr2 ho2 hb2; have F := Lib.hid hF; clear hr2 ho2 hb2 hF R1 h1 hb1))
    go_ret2
    exact ⟨rfl, F.out.below⟩
  · obtain ⟨n0, hn0⟩ : ∃ n0, n0 = binV 5 a b := ⟨_, rfl⟩
    rw [← hn0, div_way' 5 b (by decide) h0]
    obtain ⟨m0, hm0⟩ : ∃ m0, m0 = wrap64 (a.tdiv b) := ⟨_, rfl⟩
    have HD : Hid (∀ w, Calls Try.prog 29 #[.int .i64 a, .int .i64 b] w fun e w' => e = .returned (.tuple #[.int .i64 m0, .int .i64 n0]) ∧ Below w.heap.size w w') := Lib.hid (fun w => divide_c a b _ _ w ha hb h0 hm0.symm (by rw [hn0, binV_5' a b h0, wrap64_in _ (tmod_in a b ha)]))
    have t0 : (b == 0) = false := by rw [beq_eq_false_iff_ne]; exact h0
    clear ha hb h0 hn0 hm0
    go_enter Try.func14, Try.ntmps14
    go_wp2_with fail
    refine (cells_any a _).mono ?_
    rintro e w1 ⟨rfl, g1⟩
    go_wp2_with fail
    refine (cells_any b _).mono ?_
    rintro e w2 ⟨rfl, g2⟩
    go_wp2_with (first | (refine store_arr_any rfl _ _ rfl w2.heap.size _ rfl rfl 54 _ (heap_alloc2_old _ _ _) rfl ?_; intro W1 hr1 ho1 hb1 hsz; clear hsz; have h1 := Lib.hid ((ho1 (w2.heap.size + 1) (by omega)).trans (heap_alloc2_new _ _ _)); have R1 := Lib.hid hr1; clear ho1 hr1) | (refine store_arr_any rfl _ _ rfl (w2.heap.size + 1) _ rfl rfl 54 _ h1.out rfl ?_; intro W2 hr2 ho2 hb2 hsz; clear hsz; have hF : F2 w w2.heap.size (w2.heap.size + 1) (bvV (B64 a)) (bvV (B64 b)) W2 := f2_start g1 g2 R1.out hb1 hr2 ho2 hb2; have F := Lib.hid hF; clear hr2 ho2 hb2 hF R1 h1 hb1) | (go_at_call 29; refine (HD.out _).mono ?_; rintro e v0 ⟨rfl, g0⟩; replace F := Lib.hid (F.out.next g0); clear g0))
    go_ret2
    exact ⟨rfl, F.out.below⟩

/-- The first argument's row, of which k places are done. -/
def midOp (o : Bool → Bool → Bool) (x y : BitVec 64) (k i : Nat) : Bool := if i < k then o (x.getLsbD i) (y.getLsbD i) else x.getLsbD i
theorem midOp_start (o : Bool → Bool → Bool) (x y : BitVec 64) : arrV (midOp o x y 0) = bvV x := rfl
theorem midOp_step (o : Bool → Bool → Bool) (x y : BitVec 64) (k : Nat) (b : Bool) (h : o (x.getLsbD k) (y.getLsbD k) = b) : (arrV (midOp o x y k)).setIfInBounds k (.bool b) = arrV (midOp o x y (k + 1)) := by
  refine arrV_set _ _ _ _ ?_ ?_
  · unfold midOp; rw [if_pos (Nat.lt_succ_self k), h]
  · intro i hi
    unfold midOp
    by_cases hk : i < k
    · rw [if_pos hk, if_pos (by omega)]
    · rw [if_neg hk, if_neg (by omega)]
theorem midOp_end (o : Bool → Bool → Bool) (x y z : BitVec 64) (k : Nat) (hk : 64 ≤ k) (h : ∀ i, i < 64 → z.getLsbD i = o (x.getLsbD i) (y.getLsbD i)) : arrV (midOp o x y k) = bvV z := arr_bv _ _ fun i hi => by
  unfold midOp; rw [if_pos (by omega), h i hi]
theorem F2.drewN {w wr : World} {bx b2 : Nat} {cx cy : Array Value} {n : Nat} (h : F2 w bx b2 cx cy wr) : F2 w bx b2 cx cy (wr.drewN n) := h.next ⟨rfl, rfl, rfl, Nat.le_refl _, fun _ _ => rfl⟩
theorem F2.setx {w wr : World} {bx b2 : Nat} {cx cy : Array Value} (h : F2 w bx b2 cx cy wr) (i : Nat) (v : Value) : F2 w bx b2 (cx.setIfInBounds i v) cy (wr.setCell ⟨bx, i, none⟩ v) :=
  h.putx (heap_setCell_same _ _ _ _ _ _ h.hx) (fun _ hk => heap_setCell_other _ _ _ _ hk) (below_set _ _ _ _)

set_option maxHeartbeats 1600000 in
set_option maxRecDepth 100000 in
theorem rbin_6 (a b : Int) (w : World) :
    Calls Try.prog 14 #[.int .i64 6, .int .i64 a, .int .i64 b] w fun e w' => e = .returned (.tuple #[.int .i64 (binV 6 a b), .int .i64 (wayV 6 b)]) ∧ Below w.heap.size w w' := by
  obtain ⟨n0, hn0⟩ : ∃ n0, n0 = binV 6 a b := ⟨_, rfl⟩
  rw [← hn0, show wayV 6 b = 0 from rfl]
  have HS : Hid ((B64 a &&& B64 b).toInt = n0) := Lib.hid (by rw [hn0, binV_6, bits_and])
  clear hn0
  go_enter Try.func14, Try.ntmps14
  go_wp2_with fail
  refine (cells_any a _).mono ?_
  rintro e w1 ⟨rfl, g1⟩
  go_wp2_with fail
  refine (cells_any b _).mono ?_
  rintro e w2 ⟨rfl, g2⟩
  go_wp2_with (first | (refine store_arr_any rfl _ _ rfl w2.heap.size _ rfl rfl 54 _ (heap_alloc2_old _ _ _) rfl ?_; intro W1 hr1 ho1 hb1 hsz; clear hsz; have h1 := Lib.hid ((ho1 (w2.heap.size + 1) (by omega)).trans (heap_alloc2_new _ _ _)); have R1 := Lib.hid hr1; clear ho1 hr1) | (refine store_arr_any rfl _ _ rfl (w2.heap.size + 1) _ rfl rfl 54 _ h1.out rfl ?_; intro W2 hr2 ho2 hb2 hsz; clear hsz; have hF : F2 w w2.heap.size (w2.heap.size + 1) (bvV (B64 a)) (bvV (B64 b)) W2 := f2_start g1 g2 R1.out hb1 hr2 ho2 hb2; have F := Lib.hid hF; clear hr2 ho2 hb2 hF R1 h1 hb1))
  generalize hbx : w2.heap.size = bx at *
  generalize hb2 : bx + 1 = b2 at *
  clear hbx hb2
  go_loopw [59] (fun i wr => ∃ k : Nat, k ≤ 64 ∧ i = .int .i64 k ∧ F2 w bx b2 (arrV (midOp (fun p q => p && q) (B64 a) (B64 b) k)) (bvV (B64 b)) wr) (fun i _ => 64 - (intOf i).toNat)
  case atStart => exact ⟨0, by omega, rfl, by rw [midOp_start]; exact F.out⟩
  case round =>
    obtain ⟨k, hk, rfl, hF⟩ := hrel
    clear F g1 g2
    by_cases hlt : k < 64
    · obtain ⟨hc, hfr⟩ := spot hF.hx hlt
      have hd := (spot hF.hy hlt).1
      rw [show midOp (fun p q => p && q) (B64 a) (B64 b) k k = (B64 a).getLsbD k by unfold midOp; rw [if_neg (Nat.lt_irrefl k)]] at hc
      have HF := Lib.hid hF
      have q1 : (k : Int) < 64 := by omega
      clear hF
      cases hp : (B64 a).getLsbD k <;> cases hq : (B64 b).getLsbD k <;> rw [hp] at hc <;> rw [hq] at hd
      all_goals
        have HO := fun (c : Bool) (h : (fun p q => p && q) ((B64 a).getLsbD k) ((B64 b).getLsbD k) = c) => midOp_step (fun p q => p && q) (B64 a) (B64 b) k c h
        rw [hp, hq] at HO
        have HO' := Lib.hid HO
        clear hp hq HO
        go_wp2_with fail
        go_roundw
        case rel => exact ⟨k + 1, by omega, by go_num, by rw [← HO'.out _ rfl]; exact HF.out.setx _ _⟩
        case measure => simp [intOf]; omega
    · rw [midOp_end _ _ _ (B64 a &&& B64 b) k (by omega) (fun i _ => by rw [BitVec.getLsbD_and])] at hF
      have F := Lib.hid hF
      clear hF
      go_wp2_with (first | (refine wpList_load_row rfl 54 _ rfl bx rfl 54 _ (0, 0) _ F.out.hx Try.underlying54 rfl (info_arrV _) ?_) | (go_at_call 25; refine (rnumber_c _ _ _ HS.out).mono ?_; rintro e v0 ⟨rfl, g0⟩; replace F := Lib.hid (F.out.next g0); clear g0))
      go_ret2
      exact ⟨rfl, F.out.below⟩

set_option maxHeartbeats 1600000 in
set_option maxRecDepth 100000 in
theorem rbin_7 (a b : Int) (w : World) :
    Calls Try.prog 14 #[.int .i64 7, .int .i64 a, .int .i64 b] w fun e w' => e = .returned (.tuple #[.int .i64 (binV 7 a b), .int .i64 (wayV 7 b)]) ∧ Below w.heap.size w w' := by
  obtain ⟨n0, hn0⟩ : ∃ n0, n0 = binV 7 a b := ⟨_, rfl⟩
  rw [← hn0, show wayV 7 b = 0 from rfl]
  have HS : Hid ((B64 a ||| B64 b).toInt = n0) := Lib.hid (by rw [hn0, binV_7, bits_or])
  clear hn0
  go_enter Try.func14, Try.ntmps14
  go_wp2_with fail
  refine (cells_any a _).mono ?_
  rintro e w1 ⟨rfl, g1⟩
  go_wp2_with fail
  refine (cells_any b _).mono ?_
  rintro e w2 ⟨rfl, g2⟩
  go_wp2_with (first | (refine store_arr_any rfl _ _ rfl w2.heap.size _ rfl rfl 54 _ (heap_alloc2_old _ _ _) rfl ?_; intro W1 hr1 ho1 hb1 hsz; clear hsz; have h1 := Lib.hid ((ho1 (w2.heap.size + 1) (by omega)).trans (heap_alloc2_new _ _ _)); have R1 := Lib.hid hr1; clear ho1 hr1) | (refine store_arr_any rfl _ _ rfl (w2.heap.size + 1) _ rfl rfl 54 _ h1.out rfl ?_; intro W2 hr2 ho2 hb2 hsz; clear hsz; have hF : F2 w w2.heap.size (w2.heap.size + 1) (bvV (B64 a)) (bvV (B64 b)) W2 := f2_start g1 g2 R1.out hb1 hr2 ho2 hb2; have F := Lib.hid hF; clear hr2 ho2 hb2 hF R1 h1 hb1))
  generalize hbx : w2.heap.size = bx at *
  generalize hb2 : bx + 1 = b2 at *
  clear hbx hb2
  go_loopw [59] (fun i wr => ∃ k : Nat, k ≤ 64 ∧ i = .int .i64 k ∧ F2 w bx b2 (arrV (midOp (fun p q => p || q) (B64 a) (B64 b) k)) (bvV (B64 b)) wr) (fun i _ => 64 - (intOf i).toNat)
  case atStart => exact ⟨0, by omega, rfl, by rw [midOp_start]; exact F.out⟩
  case round =>
    obtain ⟨k, hk, rfl, hF⟩ := hrel
    clear F g1 g2
    by_cases hlt : k < 64
    · obtain ⟨hc, hfr⟩ := spot hF.hx hlt
      have hd := (spot hF.hy hlt).1
      rw [show midOp (fun p q => p || q) (B64 a) (B64 b) k k = (B64 a).getLsbD k by unfold midOp; rw [if_neg (Nat.lt_irrefl k)]] at hc
      have HF := Lib.hid hF
      have q1 : (k : Int) < 64 := by omega
      clear hF
      cases hp : (B64 a).getLsbD k <;> cases hq : (B64 b).getLsbD k <;> rw [hp] at hc <;> rw [hq] at hd
      all_goals
        have HO := fun (c : Bool) (h : (fun p q => p || q) ((B64 a).getLsbD k) ((B64 b).getLsbD k) = c) => midOp_step (fun p q => p || q) (B64 a) (B64 b) k c h
        rw [hp, hq] at HO
        have HO' := Lib.hid HO
        clear hp hq HO
        go_wp2_with fail
        go_roundw
        case rel => exact ⟨k + 1, by omega, by go_num, by rw [← HO'.out _ rfl]; exact HF.out.setx _ _⟩
        case measure => simp [intOf]; omega
    · rw [midOp_end _ _ _ (B64 a ||| B64 b) k (by omega) (fun i _ => by rw [BitVec.getLsbD_or])] at hF
      have F := Lib.hid hF
      clear hF
      go_wp2_with (first | (refine wpList_load_row rfl 54 _ rfl bx rfl 54 _ (0, 0) _ F.out.hx Try.underlying54 rfl (info_arrV _) ?_) | (go_at_call 25; refine (rnumber_c _ _ _ HS.out).mono ?_; rintro e v0 ⟨rfl, g0⟩; replace F := Lib.hid (F.out.next g0); clear g0))
      go_ret2
      exact ⟨rfl, F.out.below⟩

set_option maxHeartbeats 1600000 in
set_option maxRecDepth 100000 in
theorem rbin_8 (a b : Int) (w : World) :
    Calls Try.prog 14 #[.int .i64 8, .int .i64 a, .int .i64 b] w fun e w' => e = .returned (.tuple #[.int .i64 (binV 8 a b), .int .i64 (wayV 8 b)]) ∧ Below w.heap.size w w' := by
  obtain ⟨n0, hn0⟩ : ∃ n0, n0 = binV 8 a b := ⟨_, rfl⟩
  rw [← hn0, show wayV 8 b = 0 from rfl]
  have HS : Hid ((B64 a ^^^ B64 b).toInt = n0) := Lib.hid (by rw [hn0, binV_8, bits_xor])
  clear hn0
  go_enter Try.func14, Try.ntmps14
  go_wp2_with fail
  refine (cells_any a _).mono ?_
  rintro e w1 ⟨rfl, g1⟩
  go_wp2_with fail
  refine (cells_any b _).mono ?_
  rintro e w2 ⟨rfl, g2⟩
  go_wp2_with (first | (refine store_arr_any rfl _ _ rfl w2.heap.size _ rfl rfl 54 _ (heap_alloc2_old _ _ _) rfl ?_; intro W1 hr1 ho1 hb1 hsz; clear hsz; have h1 := Lib.hid ((ho1 (w2.heap.size + 1) (by omega)).trans (heap_alloc2_new _ _ _)); have R1 := Lib.hid hr1; clear ho1 hr1) | (refine store_arr_any rfl _ _ rfl (w2.heap.size + 1) _ rfl rfl 54 _ h1.out rfl ?_; intro W2 hr2 ho2 hb2 hsz; clear hsz; have hF : F2 w w2.heap.size (w2.heap.size + 1) (bvV (B64 a)) (bvV (B64 b)) W2 := f2_start g1 g2 R1.out hb1 hr2 ho2 hb2; have F := Lib.hid hF; clear hr2 ho2 hb2 hF R1 h1 hb1))
  generalize hbx : w2.heap.size = bx at *
  generalize hb2 : bx + 1 = b2 at *
  clear hbx hb2
  go_loopw [59] (fun i wr => ∃ k : Nat, k ≤ 64 ∧ i = .int .i64 k ∧ F2 w bx b2 (arrV (midOp (fun p q => p != q) (B64 a) (B64 b) k)) (bvV (B64 b)) wr) (fun i _ => 64 - (intOf i).toNat)
  case atStart => exact ⟨0, by omega, rfl, by rw [midOp_start]; exact F.out⟩
  case round =>
    obtain ⟨k, hk, rfl, hF⟩ := hrel
    clear F g1 g2
    by_cases hlt : k < 64
    · obtain ⟨hc, hfr⟩ := spot hF.hx hlt
      have hd := (spot hF.hy hlt).1
      rw [show midOp (fun p q => p != q) (B64 a) (B64 b) k k = (B64 a).getLsbD k by unfold midOp; rw [if_neg (Nat.lt_irrefl k)]] at hc
      have HF := Lib.hid hF
      have q1 : (k : Int) < 64 := by omega
      clear hF
      cases hp : (B64 a).getLsbD k <;> cases hq : (B64 b).getLsbD k <;> rw [hp] at hc <;> rw [hq] at hd
      all_goals
        have HO := fun (c : Bool) (h : (fun p q => p != q) ((B64 a).getLsbD k) ((B64 b).getLsbD k) = c) => midOp_step (fun p q => p != q) (B64 a) (B64 b) k c h
        rw [hp, hq] at HO
        have HO' := Lib.hid HO
        clear hp hq HO
        go_wp2_with fail
        go_still_tail 9, (by kernel_rfl)
        go_wp2_with fail
        go_roundw
        case rel => exact ⟨k + 1, by omega, by go_num, by rw [← HO'.out _ rfl]; exact HF.out.drewN.setx _ _⟩
        case measure => simp [intOf]; omega
    · rw [midOp_end _ _ _ (B64 a ^^^ B64 b) k (by omega) (fun i _ => by rw [BitVec.getLsbD_xor])] at hF
      have F := Lib.hid hF
      clear hF
      go_wp2_with (first | (refine wpList_load_row rfl 54 _ rfl bx rfl 54 _ (0, 0) _ F.out.hx Try.underlying54 rfl (info_arrV _) ?_) | (go_at_call 25; refine (rnumber_c _ _ _ HS.out).mono ?_; rintro e v0 ⟨rfl, g0⟩; replace F := Lib.hid (F.out.next g0); clear g0))
      go_ret2
      exact ⟨rfl, F.out.below⟩
end Go.Proofs.Ytonpbbflloljgaa
