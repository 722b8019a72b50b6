/-
  The walks of package sum, second part: Sum; the effects (on, twice, oneZero); pushZeros; Join.
-/
import Derived.Test.YtpiajecfhppfeaaDoorSumW1
import Derived.Deep.RegionWith
import Derived.Deep.DrawnRows
namespace Go.Proofs.YtpiajecfhppfeaaDoor
open Go.RowKit

set_option maxHeartbeats 400000 in
theorem sum_any (s : ByteArray) (w : World) (hs : s.size ≤ maxLen) (hL : Leaves w) :
    Calls Tryd.prog 10 #[.string s] w fun e w' => e = .returned (.int .u32 (Crc.more 0 (bs s) : Nat)) ∧ w = w' := by
  have HL := Lib.hid hL; clear hL
  go_enter Tryd.func10, Tryd.ntmps10
  go_wp2_with (go_at_call 12; refine (more_any 0 _ _ (by decide) hs HL.out).mono ?_; rintro e w' ⟨rfl, rfl⟩)
  go_ret
  exact ⟨rfl, rfl⟩

theorem pow_lt (k : Nat) (h : k < 32) : 2 ^ k < 2 ^ 32 := Nat.pow_lt_pow_right (by omega) h
theorem pow_mod (k : Nat) (h : k < 32) : (2 : Int) ^ k % 4294967296 = ((2 ^ k : Nat) : Int) := by
  have e : (2 : Int) ^ k = ((2 ^ k : Nat) : Int) := (Int.natCast_pow 2 k).symm
  rw [e]
  exact Int.emod_eq_of_lt (Int.natCast_nonneg _) (by have := pow_lt k h; omega)
theorem and1 (r k : Nat) (h : r < 2 ^ 32) : bits .and .u32 ((r : Int) / 2 ^ k) 1 = ((r / 2 ^ k % 2 : Nat) : Int) := by
  have e : (r : Int) / 2 ^ k = ((r / 2 ^ k : Nat) : Int) := by norm_cast
  have hlt : r / 2 ^ k < 2 ^ 32 := Nat.lt_of_le_of_lt (Nat.div_le_self _ _) h
  have := u32_and_nat (r / 2 ^ k) 1 (by omega) (by omega)
  rw [nat_mask1] at this
  rw [e]; exact this

/-- An effect's values in memory: what each bit of a register becomes. -/
def effV (n : Nat) : Array Value := ((List.range 32).map fun i => Value.int .u32 (Crc.steps n (2 ^ i) : Nat)).toArray
theorem effV_size (n : Nat) : (effV n).size = 32 := by simp [effV]
theorem effV_get (n k : Nat) (h : k < 32) : (effV n)[k]? = some (.int .u32 (Crc.steps n (2 ^ k) : Nat)) := by simp [effV, h]

set_option maxHeartbeats 400000 in
theorem on_any (n r : Nat) (w : World) (hr : r < 2 ^ 32) :
    Calls Tryd.prog 27 #[.agg (effV n), .int .u32 r] w fun e w' => e = .returned (.int .u32 (Crc.steps n r : Nat)) ∧ w.alloc (.cells (effV n) 56) = w' := by
  go_enter Tryd.func27, Tryd.ntmps27
  go_wp2_with fail
  go_loop [5, 7] (fun m i => ∃ k : Nat, k ≤ 32 ∧ i = .int .i64 k ∧ m = .int .u32 (Crc.steps n (r % 2 ^ k) : Nat)) (fun _ i => 32 - (intOf i).toNat)
  case atStart => exact ⟨0, by omega, rfl, by rw [Nat.pow_zero, Nat.mod_one, Crc.steps_zero]; rfl⟩
  case round =>
    obtain ⟨k, hk, rfl, rfl⟩ := hrel
    by_cases hlt : k < 32
    · have hc : (w.alloc (Obj.cells (effV n) 56)).cell? ⟨w.heap.size, k, none⟩ = some (.int .u32 (Crc.steps n (2 ^ k) : Nat)) := by
        simp [effV_get n k hlt]
      have h1 := and1 r k hr
      rcases Nat.mod_two_eq_zero_or_one (r / 2 ^ k) with hb | hb
      · have HS := Lib.hid (Crc.mod_bit0 r k hb)
        have ht : (bits BinOp.and IntKind.u32 ((r : Int) / 2 ^ k) 1 == 1) = false := by rw [h1, hb]; rfl
        clear h1 hb
        go_wp2_with fail
        go_round
        case rel => exact ⟨k + 1, by omega, by go_num, by rw [HS.out]⟩
        case measure => simp [intOf]; omega
      · have HS := Lib.hid (Crc.mod_bit1 r k hb)
        have ht : (bits BinOp.and IntKind.u32 ((r : Int) / 2 ^ k) 1 == 1) = true := by rw [h1, hb]; rfl
        have hx := xor32 (Crc.steps n (r % 2 ^ k)) (Crc.steps n (2 ^ k)) (Crc.steps_lt _ _ (by have := Nat.mod_lt r (Nat.two_pow_pos k); have := pow_lt k hlt; omega)) (Crc.steps_lt _ _ (pow_lt k hlt))
        clear h1 hb
        go_wp2_with fail
        go_round
        case rel => exact ⟨k + 1, by omega, by go_num, by rw [HS.out, Crc.steps_xor]⟩
        case measure => simp [intOf]; omega
    · go_wp2_with fail
      go_ret
      exact ⟨ret_u32 (by rw [show k = 32 by omega, Nat.mod_eq_of_lt hr]), rfl⟩

theorem leaves_pos {w : World} (h : Leaves w) : 0 < w.heap.size := block_lt_of_cell (h 0 (by omega))
theorem leaves_below {w w' : World} {B : Nat} (h : Leaves w) (hb : Below B w w') (hB : 0 < B) : Leaves w' := fun n hn => by
  rw [hb.cell (p := ⟨0, n, none⟩) hB]; exact h n hn

theorem below_setRow {B : Nat} {a w : World} (h : Below B a w) {g : Nat} (hg : B ≤ g) (cs : Array Value) : Below B a (w.setRow g cs) :=
  h.trans ⟨rfl, rfl, rfl, by simp, fun k hk => setRow_other w g k cs (by omega)⟩

/-- An effect whose first k numbers are laid. -/
def mixV (n k : Nat) : Array Value := ((List.range 32).map fun i => Value.int .u32 (if i < k then Crc.steps n (2 ^ i) else 0 : Nat)).toArray
theorem mixV_size (n k : Nat) : (mixV n k).size = 32 := by simp [mixV]
theorem mixV_get (n k i : Nat) (h : i < 32) : (mixV n k)[i]? = some (.int .u32 (if i < k then Crc.steps n (2 ^ i) else 0 : Nat)) := by simp [mixV, h]
theorem mixV_all (n k : Nat) (h : 32 ≤ k) : mixV n k = effV n := by
  unfold mixV effV
  congr 1
  apply List.map_congr_left
  intro i hi
  rw [if_pos (by have := List.mem_range.1 hi; omega)]
theorem mixV_set (n k : Nat) (h : k < 32) : (mixV n k).setIfInBounds k (.int .u32 (Crc.steps n (2 ^ k) : Nat)) = mixV n (k + 1) := by
  apply Array.ext_getElem?
  intro i
  rw [Array.getElem?_setIfInBounds]
  by_cases hi : i < 32
  · rw [mixV_get _ _ _ hi, mixV_get _ _ _ hi, mixV_size]
    by_cases e : k = i
    · subst e; rw [if_pos rfl, if_pos h, if_pos (by omega)]
    · rw [if_neg e]
      by_cases g : i < k
      · rw [if_pos g, if_pos (by omega)]
      · rw [if_neg g, if_neg (by omega)]
  · rw [if_neg (by omega), Array.getElem?_eq_none (by rw [mixV_size]; omega), Array.getElem?_eq_none (by rw [mixV_size]; omega)]
theorem effV_one (n : Nat) : (effV n).all (·.oneCell') = true := by
  rw [Array.all_eq_true_iff_forall_mem]
  intro x hx
  simp only [effV, List.mem_toArray, List.mem_map] at hx
  obtain ⟨i, _, rfl⟩ := hx
  rfl
theorem info_eff : (Tryd.prog.info? 56).map (·.size) = some 32 := by kernel_rfl
theorem info_effV (n : Nat) : (Tryd.prog.info? 56).map (·.size) = some (effV n).size := by rw [effV_size]; exact info_eff

set_option maxHeartbeats 400000 in
theorem oneZero_any (w : World) (hL : Leaves w) :
    Calls Tryd.prog 26 #[] w fun e w' => e = .returned (.agg (effV 8)) ∧ Below w.heap.size w w' := by
  have hp := leaves_pos hL
  have HL := Lib.hid hL; clear hL
  have H0 : Hid (mixV 8 0 = #[Value.int IntKind.u32 0, Value.int IntKind.u32 0, Value.int IntKind.u32 0, Value.int IntKind.u32 0, Value.int IntKind.u32 0, Value.int IntKind.u32 0, Value.int IntKind.u32 0, Value.int IntKind.u32 0, Value.int IntKind.u32 0, Value.int IntKind.u32 0, Value.int IntKind.u32 0, Value.int IntKind.u32 0, Value.int IntKind.u32 0, Value.int IntKind.u32 0, Value.int IntKind.u32 0, Value.int IntKind.u32 0, Value.int IntKind.u32 0, Value.int IntKind.u32 0, Value.int IntKind.u32 0, Value.int IntKind.u32 0, Value.int IntKind.u32 0, Value.int IntKind.u32 0, Value.int IntKind.u32 0, Value.int IntKind.u32 0, Value.int IntKind.u32 0, Value.int IntKind.u32 0, Value.int IntKind.u32 0, Value.int IntKind.u32 0, Value.int IntKind.u32 0, Value.int IntKind.u32 0, Value.int IntKind.u32 0, Value.int IntKind.u32 0]) := Lib.hid (by rfl)
  go_enter Tryd.func26, Tryd.ntmps26
  go_wp2_with fail
  go_loopw [3] (fun i wr => ∃ (k : Nat) (Z : Array Value), k ≤ 32 ∧ i = .int .i64 k ∧ Z.size = 32 ∧ wr.heap[w.heap.size]? = some (.cells Z 56 (0, 0)) ∧ wr.heap[w.heap.size + 1]? = some (.cells (mixV 8 k) 56 (0, 0)) ∧ Below w.heap.size w wr) (fun i _ => 32 - (intOf i).toNat)
  case atStart => exact ⟨0, _, by omega, rfl, rfl, heap_alloc2_old _ _ _, by rw [H0.out]; exact heap_alloc2_new _ _ _, ((Below.refl _ _).alloc (Nat.le_refl _) _).alloc (by simp) _⟩
  case round =>
    obtain ⟨k, Z, hk, rfl, hz, h0, h1, hb⟩ := hrel
    have HL2 := Lib.hid (leaves_below HL.out hb hp)
    by_cases hlt : k < 32
    · have hc := cell_of_row wr (w.heap.size + 1) k _ _ _ h1
      have hfr := frozen_of_row wr (w.heap.size + 1) k _ _ h1
      rw [mixV_get 8 k k hlt, if_neg (by omega)] at hc
      obtain ⟨p, hpk⟩ : ∃ p : Nat, p = 2 ^ k := ⟨_, rfl⟩
      have hplt : p < 2 ^ 32 := by rw [hpk]; exact pow_lt k hlt
      have hpi : (2 : Int) ^ k % 4294967296 = (p : Int) := by
        rw [hpk]; exact pow_mod k hlt
      have HS : Hid (_ = _) := Lib.hid (mixV_set 8 k hlt)
      rw [← hpk] at HS
      clear hpk
      have H1 := Lib.hid h1
      have H0' := Lib.hid h0
      clear h1 h0
      go_wp2_with (go_at_call 21; refine (pushZero_any _ _ hplt HL2.out).mono ?_; rintro e w' ⟨rfl, rfl⟩)
      go_roundw
      case rel =>
        refine ⟨k + 1, Z, by omega, by go_num, hz, ?_, ?_, hb.setCell (Nat.le_succ _) _⟩
        · rw [heap_setCell_other _ _ _ _ (Nat.ne_of_lt (Nat.lt_succ_self _))]; exact H0'.out
        · rw [heap_setCell_same _ _ _ _ _ _ H1.out, HS.out]
      case measure => simp [intOf]; omega
    · rw [mixV_all 8 k (by omega)] at h1
      go_wp2_with (first | (refine wpList_load_row rfl 56 _ rfl (w.heap.size + 1) rfl 56 (effV 8) (0, 0) _ h1 Tryd.underlying56 rfl (info_effV 8) ?_) | (refine wpList_store_row rfl 56 _ _ rfl w.heap.size (effV 8) rfl rfl 56 Z h0 (info_effV 8) (by rw [hz, effV_size]) (effV_one 8) ?_))
      refine bodyPost_ret (results_cell_row rfl _ _ w.heap.size 56 (effV 8) (0, 0) _ rfl (setRow_heap wr w.heap.size Z _ _ _ h0) Tryd.underlying56 rfl (info_effV 8)) rfl ⟨rfl, below_setRow hb (Nat.le_refl _) _⟩

/-- The row of cells at a block's head. -/
def rowAt (w : World) (b : Nat) : Array Value := match w.heap[b]? with
  | some (.cells cs _ _) => cs
  | _ => #[]
def rowOk (w : World) (b : Nat) : Bool := match w.heap[b]? with
  | some (.cells cs _ _) => cs.size == 32
  | _ => false
theorem rowAt_of {w : World} {b : Nat} {cs : Array Value} {t : TypeId} {fr : Nat × Nat} (h : w.heap[b]? = some (.cells cs t fr)) : rowAt w b = cs := by unfold rowAt; rw [h]
theorem rowOk_of {w : World} {b : Nat} {cs : Array Value} {t : TypeId} {fr : Nat × Nat} (h : w.heap[b]? = some (.cells cs t fr)) (hs : cs.size = 32) : rowOk w b = true := by unfold rowOk; rw [h]; simp [hs]
/-- The block at whose head a pointer's value points. -/
def ptrBlock : Value → Nat
  | .pointer (some ⟨b, 0, none⟩) => b
  | _ => 0
def ptrHead : Value → Bool
  | .pointer (some ⟨_, 0, none⟩) => true
  | _ => false
@[go_sem] theorem ptrBlock_mk (b : Nat) : ptrBlock (.pointer (some ⟨b, 0, none⟩)) = b := rfl
@[go_sem] theorem ptrHead_mk (b : Nat) : ptrHead (.pointer (some ⟨b, 0, none⟩)) = true := rfl
theorem wp_load_eff {d : Option Tmp} {x : Operand} {ty : TypeId} {p : String} {af : Array Edge} {g : Option (Nat × Bool)} {a : Act} {w : World} {K : Act → World → Prop} {Q : Exit → Act → World → Prop}
    (h1 : ptrHead (a.eval x) = true) (h2 : rowOk w (ptrBlock (a.eval x)) = true) :
    Oper.wp Tryd.prog { dst := d, op := .load 56 x, type := ty, pos := p, after := af, guard := g } a w K Q = K (a.put d (.agg (rowAt w (ptrBlock (a.eval x))))) w := by
  generalize hv : a.eval x = v at h1 h2 ⊢
  match v, h1 with
  | .pointer (some ⟨b, 0, none⟩), _ =>
    rw [ptrBlock_mk] at h2 ⊢
    unfold rowOk at h2
    split at h2
    · rename_i cs t fr hg
      rw [rowAt_of hg]
      unfold Oper.wp execOp
      have hs : cs.size = 32 := by simpa using h2
      simp only [hv, Instr.loadAt, Instr.sureAddr, Sem.run_bind, Sem.run_pure, Result.andThen_ok, run_loadVar_row w b t 56 cs fr _ hg Tryd.underlying56 rfl (by rw [info_eff, hs])]
      rfl
    · cases h2
theorem at0 (w : World) (A B C : Obj) : (((w.alloc A).alloc B).alloc C).heap[w.heap.size]? = some A := by
  rw [heap_alloc_old _ _ (by simp; omega)]; exact heap_alloc2_old w A B
theorem at1 (w : World) (A B C : Obj) : (((w.alloc A).alloc B).alloc C).heap[w.heap.size + 1]? = some B := by
  rw [heap_alloc_old _ _ (by simp)]; exact heap_alloc2_new w A B
theorem at2 (w : World) (A B C : Obj) : (((w.alloc A).alloc B).alloc C).heap[w.heap.size + 1 + 1]? = some C := by
  have := heap_alloc_new ((w.alloc A).alloc B) C
  simpa using this
theorem effV_double (n k : Nat) : Crc.steps n (Crc.steps n (2 ^ k)) = Crc.steps (n + n) (2 ^ k) := (Crc.steps_add n n _).symm

attribute [local go_sem ↓] Go.wp_at_zero Go.wp_at_succ wp_load_eff in
set_option maxHeartbeats 800000 in
theorem twice_any (n : Nat) (w : World) :
    Calls Tryd.prog 28 #[.agg (effV n)] w fun e w' => e = .returned (.agg (effV (n + n))) ∧ Below w.heap.size w w' := by
  have H0 : Hid (mixV (n + n) 0 = #[Value.int IntKind.u32 0, Value.int IntKind.u32 0, Value.int IntKind.u32 0, Value.int IntKind.u32 0, Value.int IntKind.u32 0, Value.int IntKind.u32 0, Value.int IntKind.u32 0, Value.int IntKind.u32 0, Value.int IntKind.u32 0, Value.int IntKind.u32 0, Value.int IntKind.u32 0, Value.int IntKind.u32 0, Value.int IntKind.u32 0, Value.int IntKind.u32 0, Value.int IntKind.u32 0, Value.int IntKind.u32 0, Value.int IntKind.u32 0, Value.int IntKind.u32 0, Value.int IntKind.u32 0, Value.int IntKind.u32 0, Value.int IntKind.u32 0, Value.int IntKind.u32 0, Value.int IntKind.u32 0, Value.int IntKind.u32 0, Value.int IntKind.u32 0, Value.int IntKind.u32 0, Value.int IntKind.u32 0, Value.int IntKind.u32 0, Value.int IntKind.u32 0, Value.int IntKind.u32 0, Value.int IntKind.u32 0, Value.int IntKind.u32 0]) := Lib.hid (by rfl)
  go_enter Tryd.func28, Tryd.ntmps28
  go_wp2_with fail
  go_loopw [5] (fun i wr => ∃ (k : Nat) (Z : Array Value), k ≤ 32 ∧ i = .int .i64 k ∧ Z.size = 32 ∧ wr.heap[w.heap.size]? = some (.cells (effV n) 56 (0, 0)) ∧ wr.heap[w.heap.size + 1]? = some (.cells Z 56 (0, 0)) ∧ wr.heap[w.heap.size + 1 + 1]? = some (.cells (mixV (n + n) k) 56 (0, 0)) ∧ Below w.heap.size w wr) (fun i _ => 32 - (intOf i).toNat)
  case atStart => exact ⟨0, _, by omega, rfl, rfl, at0 _ _ _ _, at1 _ _ _ _, by rw [H0.out]; exact at2 _ _ _ _, (((Below.refl _ _).alloc (Nat.le_refl _) _).alloc (by simp) _).alloc (by simp; omega) _⟩
  case round =>
    obtain ⟨k, Z, hk, rfl, hz, h0, h1, h2, hb⟩ := hrel
    by_cases hlt : k < 32
    · have r1 : rowOk wr.drew w.heap.size = true := rowOk_of (w := wr.drew) h0 (effV_size n)
      have r2 : rowAt wr.drew w.heap.size = effV n := rowAt_of (w := wr.drew) h0
      have hc := cell_of_row wr w.heap.size k _ _ _ h0
      rw [effV_get n k hlt] at hc
      have hd := cell_of_row wr (w.heap.size + 1 + 1) k _ _ _ h2
      rw [mixV_get _ k k hlt, if_neg (by omega)] at hd
      have hfr := frozen_of_row wr (w.heap.size + 1 + 1) k _ _ h2
      have hsz : w.heap.size + 1 + 1 < wr.heap.size := block_lt_of_cell hd
      have H0' := Lib.hid h0
      have H1 := Lib.hid h1
      have H2 := Lib.hid h2
      clear h0 h1 h2
      go_wp2_with fail
      go_region_with (go_at_call 27; refine (on_any n _ _ (Crc.steps_lt n (2 ^ k) (pow_lt k hlt))).mono ?_; rintro e w' ⟨rfl, rfl⟩)
      all_goals (go_wp2_with fail)
      all_goals
        go_roundw
        case rel =>
          refine ⟨k + 1, Z, by omega, by go_num, hz, ?_, ?_, ?_, ((hb.setCell (by simp; omega) _).alloc (by simp; omega) _).drew⟩
          · rw [heap_drew, heap_alloc_old _ _ (by simp; omega), heap_setCell_other _ _ _ _ (by simp; omega)]; exact H0'.out
          · rw [heap_drew, heap_alloc_old _ _ (by simp; omega), heap_setCell_other _ _ _ _ (by simp)]; exact H1.out
          · rw [heap_drew, heap_alloc_old _ _ (by simp; omega), heap_setCell_same _ _ _ _ _ _ H2.out, effV_double, mixV_set _ _ hlt]
        case measure => simp [intOf]; omega
    · rw [mixV_all _ k (by omega)] at h2
      go_wp2_with (first | (refine wpList_load_row rfl 56 _ rfl (w.heap.size + 1 + 1) rfl 56 (effV (n + n)) (0, 0) _ h2 Tryd.underlying56 rfl (info_effV _) ?_) | (refine wpList_store_row rfl 56 _ _ rfl (w.heap.size + 1) (effV (n + n)) rfl rfl 56 Z h1 (info_effV _) (by rw [hz, effV_size]) (effV_one _) ?_))
      refine bodyPost_ret (results_cell_row rfl _ _ (w.heap.size + 1) 56 (effV (n + n)) (0, 0) _ rfl (setRow_heap wr (w.heap.size + 1) Z _ _ _ h1) Tryd.underlying56 rfl (info_effV _)) rfl ⟨rfl, below_setRow hb (by omega) _⟩
end Go.Proofs.YtpiajecfhppfeaaDoor
