/-
  The walks of the reference's bits: cells, number.
-/
import Derived.Test.YtonpbbflloljgaaArr64
import Derived.Test.YtonpbbflloljgaaArithB
namespace Go.Proofs.Ytonpbbflloljgaa
open Go.RowKit

theorem u64_toNat (n : Int) : IntKind.u64.wrap n = ((B64 n).toNat : Int) := by
  rw [IntKind.wrap_u64, BitVec.toNat_ofInt]; omega
theorem bit_at (n : Int) (k : Nat) : (bits .and .u64 (IntKind.u64.wrap n / 2 ^ k) 1 == 1) = (B64 n).getLsbD k := by
  have hlt := (B64 n).isLt
  have e : IntKind.u64.wrap n / 2 ^ k = (((B64 n).toNat / 2 ^ k : Nat) : Int) := by rw [u64_toNat]; norm_cast
  have h1 := u64_and_nat ((B64 n).toNat / 2 ^ k) 1 (Nat.lt_of_le_of_lt (Nat.div_le_self _ _) (by omega)) (by omega)
  rw [nat_mask1] at h1
  rw [e, show (1 : Int) = ((1 : Nat) : Int) from rfl, h1, BitVec.getLsbD, Nat.testBit_eq_decide_div_mod_eq, Bool.eq_iff_iff]
  simp only [beq_iff_eq, decide_eq_true_eq]
  omega

set_option maxHeartbeats 800000 in
set_option maxRecDepth 100000 in
theorem cells_any (n : Int) (w : World) :
    Calls Try.prog 24 #[.int .i64 n] w fun e w' => e = .returned (.agg (bvV (B64 n))) ∧ Below w.heap.size w w' := by
  go_enter Try.func24, Try.ntmps24
  go_wp2_with fail
  go_loopw [5] (fun i wr => ∃ (k : Nat) (Z : Array Value), k ≤ 64 ∧ i = .int .i64 k ∧ Z.size = 64 ∧ wr.heap[w.heap.size]? = some (.cells Z 54 (0, 0)) ∧ wr.heap[w.heap.size + 1]? = some (.cells (arrV fun j => decide (j < k) && (B64 n).getLsbD j) 54 (0, 0)) ∧ Below w.heap.size w wr) (fun i _ => 64 - (intOf i).toNat)
  case atStart => exact ⟨0, _, by omega, rfl, rfl, heap_alloc2_old _ _ _, heap_alloc2_new _ _ _, ((Below.refl _ _).alloc (Nat.le_refl _) _).alloc (by simp) _⟩
  case round =>
    obtain ⟨k, Z, hk, rfl, hz, h0, h1, hb⟩ := hrel
    by_cases hlt : k < 64
    · have hc := cell_of_row wr (w.heap.size + 1) k _ _ _ h1
      have hfr := frozen_of_row wr (w.heap.size + 1) k _ _ h1
      rw [arrV_get _ k hlt] at hc
      have H1 := Lib.hid h1
      have H0' := Lib.hid h0
      clear h1 h0
      go_wp2_with fail
      go_roundw
      case rel =>
        refine ⟨k + 1, Z, by omega, by go_num, hz, ?_, ?_, hb.setCell (Nat.le_succ _) _⟩
        · rw [heap_setCell_other _ _ _ _ (Nat.ne_of_lt (Nat.lt_succ_self _))]; exact H0'.out
        · rw [heap_setCell_same _ _ _ _ _ _ H1.out]
          refine congrArg (fun a => some (Obj.cells a 54 (0, 0))) (arrV_set _ _ _ _ ?_ ?_)
          · rw [bit_at, decide_eq_true (Nat.lt_succ_self k)]; rfl
          · intro i hi
            rw [show decide (i < k) = decide (i < k + 1) by rw [Bool.eq_iff_iff]; simp only [decide_eq_true_eq]; omega]
      case measure => simp [intOf]; omega
    · have hf : arrV (fun j => decide (j < k) && (B64 n).getLsbD j) = bvV (B64 n) := arr_bv _ _ fun i hi => by
        rw [decide_eq_true (by omega)]; rfl
      rw [hf] at h1
      go_wp2_with (first | (refine wpList_load_row rfl 54 _ rfl (w.heap.size + 1) rfl 54 (bvV (B64 n)) (0, 0) _ h1 Try.underlying54 rfl (info_arrV _) ?_) | (refine wpList_store_row rfl 54 _ _ rfl w.heap.size (bvV (B64 n)) rfl rfl 54 Z h0 (info_arrV _) (by rw [hz, bvV_size]) (arrV_one _) ?_))
      exact bodyPost_ret (results_cell_row rfl _ _ w.heap.size 54 (bvV (B64 n)) (0, 0) _ rfl (setRow_heap wr w.heap.size Z _ _ _ h0) Try.underlying54 rfl (info_arrV _)) rfl ⟨rfl, hb.trans ⟨rfl, rfl, rfl, by simp, fun b hlt => setRow_other wr w.heap.size b _ (by omega)⟩⟩

theorem at0 (w : World) (A B C : Obj) : (((w.alloc A).alloc B).alloc C).heap[w.heap.size]? = some A := by
  rw [heap_alloc_old _ _ (by simp; omega)]; exact heap_alloc2_old w A B
theorem at1 (w : World) (A B C : Obj) : (((w.alloc A).alloc B).alloc C).heap[w.heap.size + 1]? = some B := by
  rw [heap_alloc_old _ _ (by simp)]; exact heap_alloc2_new w A B
theorem at2 (w : World) (A B C : Obj) : (((w.alloc A).alloc B).alloc C).heap[w.heap.size + 1 + 1]? = some C := by
  have := heap_alloc_new ((w.alloc A).alloc B) C
  simpa using this
theorem mod_off (x : BitVec 64) (k : Nat) (h : x.getLsbD k = false) : x.toNat % 2 ^ (k + 1) = x.toNat % 2 ^ k := by
  rw [BitVec.getLsbD, Nat.testBit_eq_decide_div_mod_eq] at h
  have := of_decide_eq_false h
  rw [Nat.mod_pow_succ, show x.toNat / 2 ^ k % 2 = 0 by omega, Nat.mul_zero, Nat.add_zero]
theorem mod_on (x : BitVec 64) (k : Nat) (h : x.getLsbD k = true) : x.toNat % 2 ^ (k + 1) = x.toNat % 2 ^ k + 2 ^ k ∧ x.toNat % 2 ^ k + 2 ^ k < 2 ^ 64 := by
  rw [BitVec.getLsbD, Nat.testBit_eq_decide_div_mod_eq] at h
  have e : x.toNat % 2 ^ (k + 1) = x.toNat % 2 ^ k + 2 ^ k := by
    rw [Nat.mod_pow_succ, of_decide_eq_true h, Nat.mul_one]
  exact ⟨e, by rw [← e]; exact Nat.lt_of_le_of_lt (Nat.mod_le _ _) x.isLt⟩
theorem sum_in (s k : Nat) (h : s + 2 ^ k < 2 ^ 64) : IntKind.u64.wrap ((s : Int) + IntKind.u64.wrap (2 ^ k)) = ((s + 2 ^ k : Nat) : Int) := by
  have e : (2 : Int) ^ k = ((2 ^ k : Nat) : Int) := (Int.natCast_pow 2 k).symm
  rw [IntKind.wrap_u64, IntKind.wrap_u64, e]
  clear e
  generalize 2 ^ k = p at *
  omega
set_option maxHeartbeats 800000 in
set_option maxRecDepth 100000 in
theorem rnumber_any (x : BitVec 64) (w : World) :
    Calls Try.prog 25 #[.agg (bvV x)] w fun e w' => e = .returned (.int .i64 x.toInt) ∧ w.alloc (.cells (bvV x) 54) = w' := by
  go_enter Try.func25, Try.ntmps25
  go_wp2_with fail
  go_loop [3, 5] (fun m i => ∃ k s : Nat, k ≤ 64 ∧ i = .int .i64 k ∧ m = .int .u64 (s : Int) ∧ s = x.toNat % 2 ^ k) (fun _ i => 64 - (intOf i).toNat)
  case atStart => exact ⟨0, 0, by omega, rfl, rfl, by rw [Nat.pow_zero, Nat.mod_one]⟩
  case round =>
    obtain ⟨k, s, hk, rfl, rfl, hs⟩ := hrel
    have HS := Lib.hid hs
    clear hs
    by_cases hlt : k < 64
    · have hc : (w.alloc (Obj.cells (bvV x) 54)).cell? ⟨w.heap.size, k, none⟩ = some (.bool (x.getLsbD k)) := by
        simp [bvV_get x k hlt]
      cases hb : x.getLsbD k
      · rw [hb] at hc
        have HM := Lib.hid (mod_off x k hb)
        clear hb
        go_wp2_with fail
        go_round
        case rel => exact ⟨k + 1, s, by omega, by go_num, rfl, by rw [HM.out]; exact HS.out⟩
        case measure => simp [intOf]; omega
      · rw [hb] at hc
        have HM := Lib.hid (mod_on x k hb)
        clear hb
        go_wp2_with fail
        go_round
        case rel => exact ⟨k + 1, s + 2 ^ k, by omega, by go_num, by rw [sum_in s k (by rw [HS.out]; exact HM.out.2)], by rw [HM.out.1, HS.out]⟩
        case measure => simp [intOf]; omega
    · go_wp2_with fail
      go_ret
      refine ⟨ret_i64 ?_, rfl⟩
      have e : s = x.toNat := by rw [HS.out, show k = 64 by omega]; exact Nat.mod_eq_of_lt x.isLt
      rw [e, ← wrap_toNat x, IntKind.wrap_i64]
      unfold wrap64; rfl

/-- What plus has laid of its first argument's place. -/
def midPlus (x y : BitVec 64) (k i : Nat) : Bool := if i < k then (x + y).getLsbD i else x.getLsbD i
theorem carry_step (x y : BitVec 64) (k : Nat) : BitVec.carry (k + 1) x y false = (x.getLsbD k && y.getLsbD k || x.getLsbD k && BitVec.carry k x y false || y.getLsbD k && BitVec.carry k x y false) := by
  rw [BitVec.carry_succ, Bool.atLeastTwo]
theorem sum_bit (x y : BitVec 64) (k : Nat) (h : k < 64) : (x + y).getLsbD k = ((x.getLsbD k != y.getLsbD k) != BitVec.carry k x y false) := by
  rw [BitVec.getLsbD_add h]
  cases x.getLsbD k <;> cases y.getLsbD k <;> cases BitVec.carry k x y false <;> rfl

/-- The blocks of plus behind k rounds. -/
def PlusAt (x y : BitVec 64) (w wr : World) (k : Nat) : Prop := ∃ Z : Array Value, Z.size = 64 ∧ wr.heap[w.heap.size]? = some (.cells (arrV (midPlus x y k)) 54 (0, 0)) ∧ wr.heap[w.heap.size + 1]? = some (.cells (bvV y) 54 (0, 0)) ∧ wr.heap[w.heap.size + 1 + 1]? = some (.cells Z 54 (0, 0)) ∧ Below w.heap.size w wr
theorem PlusAt.step {x y : BitVec 64} {w wr : World} {k : Nat} (h : PlusAt x y w wr k) (n : Nat) (s : Bool) (hs : (x + y).getLsbD k = s) : PlusAt x y w ((wr.drewN n).setCell ⟨w.heap.size, k, none⟩ (.bool s)) (k + 1) := by
  obtain ⟨Z, hz, h0, h1, h2, hb⟩ := h
  refine ⟨Z, hz, ?_, ?_, ?_, (hb.trans ⟨rfl, rfl, rfl, Nat.le_refl _, fun _ _ => rfl⟩ : Below w.heap.size w (wr.drewN n)).setCell (Nat.le_refl _) _⟩
  · rw [heap_setCell_same _ _ _ _ _ _ (show (wr.drewN n).heap[w.heap.size]? = _ from h0)]
    refine congrArg (fun a => some (Obj.cells a 54 (0, 0))) (arrV_set _ _ _ _ ?_ ?_)
    · unfold midPlus; rw [if_pos (Nat.lt_succ_self k), hs]
    · intro i hi
      unfold midPlus
      by_cases hk : i < k
      · rw [if_pos hk, if_pos (by omega)]
      · rw [if_neg hk, if_neg (by omega)]
  · rw [heap_setCell_other _ _ _ _ (by simp)]; exact h1
  · rw [heap_setCell_other _ _ _ _ (by simp; omega)]; exact h2
theorem carry0 (x y : BitVec 64) : BitVec.carry 0 x y false = false := by simp [BitVec.carry, Nat.mod_one]

set_option maxHeartbeats 1600000 in
set_option maxRecDepth 100000 in
theorem plus_any (x y : BitVec 64) (w : World) :
    Calls Try.prog 26 #[.agg (bvV x), .agg (bvV y)] w fun e w' => e = .returned (.agg (bvV (x + y))) ∧ Below w.heap.size w w' := by
  go_enter Try.func26, Try.ntmps26
  go_wp2_with fail
  go_loopw [5, 9] (fun c i wr => ∃ (k : Nat) (r : Bool), k ≤ 64 ∧ i = .int .i64 k ∧ c = .bool r ∧ BitVec.carry k x y false = r ∧ PlusAt x y w wr k) (fun _ i _ => 64 - (intOf i).toNat)
  case atStart => exact ⟨0, false, by omega, rfl, rfl, carry0 x y, _, rfl, by rw [show arrV (midPlus x y 0) = bvV x from rfl]; exact at0 _ _ _ _, at1 _ _ _ _, at2 _ _ _ _, (((Below.refl _ _).alloc (Nat.le_refl _) _).alloc (by simp) _).alloc (by simp; omega) _⟩
  case round =>
    obtain ⟨k, r, hk, rfl, rfl, hr, hP⟩ := hrel
    have HP := Lib.hid hP
    obtain ⟨Z, hz, h0, h1, h2, hb⟩ := hP
    by_cases hlt : k < 64
    · have hc := cell_of_row wr w.heap.size k _ _ _ h0
      have hfr := frozen_of_row wr w.heap.size k _ _ h0
      have hd := cell_of_row wr (w.heap.size + 1) k _ _ _ h1
      rw [arrV_get _ k hlt] at hc
      rw [bvV_get _ k hlt] at hd
      rw [show midPlus x y k k = x.getLsbD k by unfold midPlus; rw [if_neg (Nat.lt_irrefl k)]] at hc
      have hC := carry_step x y k
      have hS := sum_bit x y k hlt
      rw [hr] at hC hS
      clear h0 h1 h2 hr hz hb
      have q1 : (k : Int) < 64 := by omega
      cases hp : x.getLsbD k <;> cases hq : y.getLsbD k <;> cases r <;> rw [hp] at hc hC hS <;> rw [hq] at hd hC hS <;> clear hp hq
      all_goals
        have HC := Lib.hid hC
        have HS := Lib.hid hS
        clear hC hS
        go_wp2_with fail
        go_quiet (fail)
        go_wp2_with fail
        go_roundw
        case rel => exact ⟨k + 1, _, by omega, by go_num, rfl, HC.out, HP.out.step _ _ HS.out⟩
        case measure => simp [intOf]; omega
    · have hf : arrV (midPlus x y k) = bvV (x + y) := arr_bv _ _ fun i hi => by
        unfold midPlus; rw [if_pos (by omega)]
      rw [hf] at h0
      clear HP hr
      go_wp2_with (first | (refine wpList_load_row rfl 54 _ rfl w.heap.size rfl 54 (bvV (x + y)) (0, 0) _ h0 Try.underlying54 rfl (info_arrV _) ?_) | (refine wpList_store_row rfl 54 _ _ rfl (w.heap.size + 1 + 1) (bvV (x + y)) rfl rfl 54 Z h2 (info_arrV _) (by rw [hz, bvV_size]) (arrV_one _) ?_))
      exact bodyPost_ret (results_cell_row rfl _ _ (w.heap.size + 1 + 1) 54 (bvV (x + y)) (0, 0) _ rfl (setRow_heap wr (w.heap.size + 1 + 1) Z _ _ _ h2) Try.underlying54 rfl (info_arrV _)) rfl ⟨rfl, hb.trans ⟨rfl, rfl, rfl, by simp, fun b hlt => setRow_other wr (w.heap.size + 1 + 1) b _ (by omega)⟩⟩
end Go.Proofs.Ytonpbbflloljgaa
