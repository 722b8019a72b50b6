/-
  The walks of package sum, third part: pushZeros and Join.
-/
import Derived.Test.YtpiajecfhppfeaaDoorSumW2
import Derived.Maps.RangeWalk
namespace Go.Proofs.YtpiajecfhppfeaaDoor
open Go.RowKit

theorem i64_and1 (n : Int) : bits .and .i64 n 1 = n % 2 := by
  have h1 : (BitVec.ofInt 64 1).toNat = 2 ^ 1 - 1 := by decide
  have key : (BitVec.ofInt 64 n &&& BitVec.ofInt 64 1).toNat = (n % ((2 ^ 64 : Nat) : Int)).toNat % 2 ^ 1 := by
    rw [BitVec.toNat_and, BitVec.toNat_ofInt, h1, Nat.and_two_pow_sub_one_eq_mod]
  show IntKind.i64.wrap ((BitVec.ofInt 64 n &&& BitVec.ofInt 64 1).toNat : Nat) = n % 2
  rw [key, IntKind.wrap_i64]
  omega

/-- A whole array stored at a block's head: what is known of the world behind it. -/
theorem store_row_any {P : Program} {ops : Array Oper} {rest : List Oper} {o : Oper} {a : Act} {w : World} {Q : Exit → Act → World → Prop} (hgd : o.guard = none) (ty : TypeId) (x y : Operand) (ho : o.op = .store ty x y)
    (g : Nat) (cells : Array Value) (hx : a.eval x = .pointer (some ⟨g, 0, none⟩)) (hy : a.eval y = .agg cells)
    (t : TypeId) (old : Array Value) (hg : w.heap[g]? = some (.cells old t (0, 0))) (hi : (P.info? ty).map (·.size) = some cells.size)
    (hold : old.size = cells.size) (h1 : cells.all (·.oneCell') = true)
    (h : ∀ W : World, W.heap[g]? = some (.cells cells t (0, 0)) → Below g w W → W.heap.size = w.heap.size → wpList P ops Q rest (a.put o.dst undef) W) : wpList P ops Q (o :: rest) a w :=
  wpList_store_row hgd ty x y ho g cells hx hy t old hg hi hold h1 (h _ (setRow_heap _ _ _ _ _ _ hg) (below_setRow (Below.refl _ _) (Nat.le_refl _) _) (by simp))

theorem zeros32 : (#[Value.int IntKind.u32 0, Value.int IntKind.u32 0, Value.int IntKind.u32 0, Value.int IntKind.u32 0, Value.int IntKind.u32 0, Value.int IntKind.u32 0, Value.int IntKind.u32 0, Value.int IntKind.u32 0, Value.int IntKind.u32 0, Value.int IntKind.u32 0, Value.int IntKind.u32 0, Value.int IntKind.u32 0, Value.int IntKind.u32 0, Value.int IntKind.u32 0, Value.int IntKind.u32 0, Value.int IntKind.u32 0, Value.int IntKind.u32 0, Value.int IntKind.u32 0, Value.int IntKind.u32 0, Value.int IntKind.u32 0, Value.int IntKind.u32 0, Value.int IntKind.u32 0, Value.int IntKind.u32 0, Value.int IntKind.u32 0, Value.int IntKind.u32 0, Value.int IntKind.u32 0, Value.int IntKind.u32 0, Value.int IntKind.u32 0, Value.int IntKind.u32 0, Value.int IntKind.u32 0, Value.int IntKind.u32 0, Value.int IntKind.u32 0] : Array Value).size = (effV 8).size := by rw [effV_size]; rfl

theorem push_odd (a N j : Nat) (h : N / 2 ^ j % 2 = 1) : Crc.steps (8 * 2 ^ j) (Crc.steps (8 * (N % 2 ^ j)) a) = Crc.steps (8 * (N % 2 ^ (j + 1))) a := by
  rw [← Crc.steps_add]
  congr 1
  rw [Nat.pow_succ, Nat.mod_mul, h]
  omega
theorem push_even (a N j : Nat) (h : N / 2 ^ j % 2 = 0) : Crc.steps (8 * (N % 2 ^ j)) a = Crc.steps (8 * (N % 2 ^ (j + 1))) a := by
  rw [Crc.mod_bit0 N j h]
theorem push_half (N j : Nat) : N / 2 ^ j / 2 = N / 2 ^ (j + 1) := by rw [Nat.div_div_eq_div_mul, Nat.pow_succ]
theorem push_twice (j : Nat) : effV (8 * 2 ^ j + 8 * 2 ^ j) = effV (8 * 2 ^ (j + 1)) := by congr 1; rw [Nat.pow_succ]; omega
theorem push_end (a N j : Nat) (h : ¬ 0 < N / 2 ^ j) : Crc.steps (8 * (N % 2 ^ j)) a = Crc.steps (8 * N) a := by
  have : N / 2 ^ j = 0 := Nat.eq_zero_of_not_pos h
  have e := Nat.mod_add_div N (2 ^ j)
  rw [this, Nat.mul_zero, Nat.add_zero] at e
  rw [e]

set_option maxHeartbeats 800000 in
theorem pushZeros_any (a N : Nat) (w : World) (ha : a < 2 ^ 32) (hN : N < 2 ^ 60) (hL : Leaves w) :
    Calls Tryd.prog 24 #[.int .u32 a, .int .i64 N] w fun e w' => e = .returned (.int .u32 (Crc.steps (8 * N) a : Nat)) ∧ Below w.heap.size w w' := by
  have HL := Lib.hid hL; clear hL
  go_enter Tryd.func24, Tryd.ntmps24
  go_wp2_with (first | (go_at_call 26; refine (oneZero_any _ HL.out).mono ?_; rintro e w1 ⟨rfl, hb⟩) | (refine store_row_any rfl 56 _ _ rfl _ (effV 8) rfl rfl 56 _ (heap_alloc_new _ _) (info_effV _) zeros32 (effV_one _) ?_; intro W hrow hbW hsW))
  go_frame
  have hB := hb.size
  have hbelow : Below w.heap.size w W := (hb.alloc hB _).trans (hbW.mono hB)
  clear hbW
  have hB2 : w1.heap.size < W.heap.size := by rw [hsW]; simp
  clear hsW hb
  generalize w1.heap.size = B at *
  go_loopw [0, 1] (fun r n wr => ∃ j : Nat, r = .int .u32 (Crc.steps (8 * (N % 2 ^ j)) a : Nat) ∧ n = .int .i64 ((N / 2 ^ j : Nat) : Int) ∧ wr.heap[B]? = some (.cells (effV (8 * 2 ^ j)) 56 (0, 0)) ∧ Below w.heap.size w wr) (fun _ n _ => (intOf n).toNat)
  case atStart => exact ⟨0, by rw [Nat.pow_zero, Nat.mod_one]; rfl, by rw [Nat.pow_zero, Nat.div_one], by simpa using hrow, hbelow⟩
  case round =>
    obtain ⟨j, rfl, rfl, hrw, hbr⟩ := hrel
    have hr : Crc.steps (8 * (N % 2 ^ j)) a < 2 ^ 32 := Crc.steps_lt _ _ ha
    have HH := Lib.hid (push_half N j)
    have HT := Lib.hid (push_twice j)
    have hq60 : N / 2 ^ j < 2 ^ 60 := Nat.lt_of_le_of_lt (Nat.div_le_self _ _) hN
    by_cases hlt : 0 < N / 2 ^ j
    · rcases Nat.mod_two_eq_zero_or_one (N / 2 ^ j) with hodd | hodd
      · have HS := Lib.hid (push_even a N j hodd)
        clear hrow hbelow
        generalize N / 2 ^ j = q at *
        have ht : (bits BinOp.and IntKind.i64 (q : Int) 1 == 1) = false := by rw [i64_and1]; simp; omega
        clear hodd
        have HR := Lib.hid hrw
        have hBr : B < wr.heap.size := (Array.getElem?_eq_some_iff.1 hrw).1
        go_wp2_with (first | (refine wpList_load_row rfl 56 _ rfl B rfl 56 (effV (8 * 2 ^ j)) (0, 0) _ HR.out Tryd.underlying56 rfl (info_effV _) ?_) | (go_at_call 28; refine (twice_any (8 * 2 ^ j) _).mono ?_; rintro e w2 ⟨rfl, hb2⟩) | (refine store_row_any rfl 56 _ _ rfl B (effV (8 * 2 ^ j + 8 * 2 ^ j)) rfl rfl 56 _ ((hb2.block B hBr).trans HR.out) (info_effV _) (by rw [effV_size, effV_size]) (effV_one _) ?_; intro W3 hrow3 hbW3 hsW3; rw [HT.out] at hrow3; have HR3 := Lib.hid hrow3; clear hrow3 hsW3))
        go_roundw
        case rel => exact ⟨j + 1, by rw [HS.out], by rw [← HH.out]; go_num, HR3.out, (hbr.trans (hb2.mono hbr.size)).trans (hbW3.mono hB)⟩
        case measure => simp [intOf]; omega
      · have HS := Lib.hid (push_odd a N j hodd)
        clear hrow hbelow
        generalize N / 2 ^ j = q at *
        have ht : (bits BinOp.and IntKind.i64 (q : Int) 1 == 1) = true := by rw [i64_and1]; simp; omega
        clear hodd
        have HR := Lib.hid hrw
        have hBr : B < wr.heap.size := (Array.getElem?_eq_some_iff.1 hrw).1
        have HR2 : Hid ((wr.alloc (.cells (effV (8 * 2 ^ j)) 56)).heap[B]? = _) := Lib.hid ((heap_alloc_old _ _ hBr).trans HR.out)
        go_wp2_with (first | (refine wpList_load_row rfl 56 _ rfl B rfl 56 (effV (8 * 2 ^ j)) (0, 0) _ HR.out Tryd.underlying56 rfl (info_effV _) ?_) | (refine wpList_load_row rfl 56 _ rfl B rfl 56 (effV (8 * 2 ^ j)) (0, 0) _ HR2.out Tryd.underlying56 rfl (info_effV _) ?_) | (go_at_call 27; refine (on_any (8 * 2 ^ j) _ _ hr).mono ?_; rintro e w2 ⟨rfl, rfl⟩) | (go_at_call 28; refine (twice_any (8 * 2 ^ j) _).mono ?_; rintro e w2 ⟨rfl, hb2⟩) | (refine store_row_any rfl 56 _ _ rfl B (effV (8 * 2 ^ j + 8 * 2 ^ j)) rfl rfl 56 _ ((hb2.block B (by simp; omega)).trans HR2.out) (info_effV _) (by rw [effV_size, effV_size]) (effV_one _) ?_; intro W3 hrow3 hbW3 hsW3; rw [HT.out] at hrow3; have HR3 := Lib.hid hrow3; clear hrow3 hsW3))
        go_roundw
        case rel => exact ⟨j + 1, by rw [HS.out], by rw [← HH.out]; go_num, HR3.out, ((hbr.alloc hbr.size _).trans (hb2.mono (by have := hbr.size; simp; omega))).trans (hbW3.mono hB)⟩
        case measure => simp [intOf]; omega
    · have HE := Lib.hid (push_end a N j hlt)
      clear hrow hbelow HH
      generalize N / 2 ^ j = q at *
      go_wp2_with fail
      go_ret
      exact ⟨ret_u32 HE.out, hbr⟩

set_option maxHeartbeats 800000 in
theorem join_any (a b N : Nat) (w : World) (ha : a < 2 ^ 32) (hb : b < 2 ^ 32) (hN : N ≤ 2 ^ 40) (hL : Leaves w) :
    Calls Tryd.prog 15 #[.int .u32 a, .int .u32 b, .int .i64 N] w fun e w' => e = .returned (.tuple #[.int .u32 (Crc.join a b N : Nat), .nilIface]) ∧ Below w.heap.size w w' := by
  have HL := Lib.hid hL; clear hL
  have hn : (N : Int) ≤ 1099511627776 := by omega
  have hx := xor32 (Crc.steps (8 * N) a) b (Crc.steps_lt _ _ ha) hb
  have HJ : Hid (Crc.steps (8 * N) a ^^^ b = Crc.join a b N) := Lib.hid rfl
  go_enter Tryd.func15, Tryd.ntmps15
  go_wp2_with (go_at_call 24; refine (pushZeros_any a N _ ha (by omega) HL.out).mono ?_; rintro e w1 ⟨rfl, hb1⟩)
  go_ret2
  exact ⟨by rw [← HJ.out]; rfl, hb1⟩
end Go.Proofs.YtpiajecfhppfeaaDoor
