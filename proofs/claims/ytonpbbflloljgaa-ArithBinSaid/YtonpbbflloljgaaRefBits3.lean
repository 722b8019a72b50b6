/-
  The walks of the reference's bits, third part: times, one, below.
-/
import Derived.Test.YtonpbbflloljgaaRefBits2
namespace Go.Proofs.Ytonpbbflloljgaa
open Go.RowKit

/-- The low k bits of y. -/
def lowB (y : BitVec 64) (k : Nat) : BitVec 64 := BitVec.ofNat 64 (y.toNat % 2 ^ k)
theorem low_off (y : BitVec 64) (k : Nat) (h : y.getLsbD k = false) : lowB y (k + 1) = lowB y k := by unfold lowB; rw [mod_off y k h]
theorem ofNat_pow (k : Nat) (h : k < 64) : BitVec.ofNat 64 (2 ^ k) = BitVec.twoPow 64 k := by
  apply BitVec.eq_of_toNat_eq
  rw [BitVec.toNat_twoPow_of_lt h, BitVec.toNat_ofNat, Nat.mod_eq_of_lt (Nat.pow_lt_pow_right (by decide) h)]
theorem low_on (x y : BitVec 64) (k : Nat) (hk : k < 64) (h : y.getLsbD k = true) : x * lowB y k + x <<< k = x * lowB y (k + 1) := by
  unfold lowB
  rw [(mod_on y k h).1, BitVec.ofNat_add, BitVec.mul_add, ofNat_pow k hk, BitVec.mul_twoPow_eq_shiftLeft]
theorem low_end (y : BitVec 64) (k : Nat) (h : 64 ≤ k) : lowB y k = y := by
  unfold lowB
  rw [Nat.mod_eq_of_lt (Nat.lt_of_lt_of_le y.isLt (Nat.pow_le_pow_right (by decide) h))]
  apply BitVec.eq_of_toNat_eq
  rw [BitVec.toNat_ofNat, Nat.mod_eq_of_lt y.isLt]
theorem low_0 (x y : BitVec 64) : x * lowB y 0 = 0 := by
  unfold lowB; rw [Nat.pow_zero, Nat.mod_one]; simp
theorem at4 (w : World) (A B C D : Obj) : ((((w.alloc A).alloc B).alloc C).alloc D).heap[w.heap.size]? = some A := by
  rw [heap_alloc_old _ _ (by simp <;> omega)]; exact at0 w A B C
theorem at5 (w : World) (A B C D : Obj) : ((((w.alloc A).alloc B).alloc C).alloc D).heap[w.heap.size + 1]? = some B := by
  rw [heap_alloc_old _ _ (by simp <;> omega)]; exact at1 w A B C
theorem at6 (w : World) (A B C D : Obj) : ((((w.alloc A).alloc B).alloc C).alloc D).heap[w.heap.size + 1 + 1]? = some C := by
  rw [heap_alloc_old _ _ (by simp)]; exact at2 w A B C
theorem at7 (w : World) (A B C D : Obj) : ((((w.alloc A).alloc B).alloc C).alloc D).heap[w.heap.size + 1 + 1 + 1]? = some D := by
  have := heap_alloc_new (((w.alloc A).alloc B).alloc C) D
  simpa using this

/-- The blocks of times behind k rounds. -/
def TimesAt (x y : BitVec 64) (w wr : World) (k : Nat) : Prop := ∃ Z : Array Value, Z.size = 64 ∧ wr.heap[w.heap.size]? = some (.cells (bvV x) 54 (0, 0)) ∧ wr.heap[w.heap.size + 1]? = some (.cells (bvV y) 54 (0, 0)) ∧ wr.heap[w.heap.size + 1 + 1]? = some (.cells Z 54 (0, 0)) ∧ wr.heap[w.heap.size + 1 + 1 + 1]? = some (.cells (bvV (x * lowB y k)) 54 (0, 0)) ∧ Below w.heap.size w wr
theorem TimesAt.off {x y : BitVec 64} {w wr : World} {k : Nat} (h : TimesAt x y w wr k) (hb : y.getLsbD k = false) : TimesAt x y w wr (k + 1) := by
  unfold TimesAt; rw [low_off y k hb]; exact h
theorem TimesAt.on {x y : BitVec 64} {w wr w1 w2 : World} {k : Nat} (h : TimesAt x y w wr k) (hk : k < 64) (hb : y.getLsbD k = true) (b1 : Below wr.drew.heap.size wr.drew w1) (b2 : Below w1.heap.size w1 w2) :
    TimesAt x y w (w2.setRow (w.heap.size + 1 + 1 + 1) (bvV (x * lowB y k + x <<< k))) (k + 1) := by
  obtain ⟨Z, hz, h0, h1, h2, h3, hB⟩ := h
  have hs : w.heap.size + 1 + 1 + 1 < wr.heap.size := (Array.getElem?_eq_some_iff.1 h3).1
  have s1 : wr.heap.size ≤ w1.heap.size := b1.size
  have old : ∀ b, b < wr.heap.size → w2.heap[b]? = wr.heap[b]? := fun b h => (b2.block b (by omega)).trans (b1.block b h)
  rw [low_on x y k hk hb]
  refine ⟨Z, hz, ?_, ?_, ?_, ?_, ?_⟩
  · rw [setRow_other _ _ _ _ (by omega), old _ (by omega)]; exact h0
  · rw [setRow_other _ _ _ _ (by omega), old _ (by omega)]; exact h1
  · rw [setRow_other _ _ _ _ (by omega), old _ (by omega)]; exact h2
  · exact setRow_heap _ _ _ _ _ _ ((old _ hs).trans h3)
  · exact (((hB.trans ((Below.refl _ _).drew.mono hB.size)).trans (b1.mono (show w.heap.size ≤ wr.drew.heap.size from hB.size))).trans (b2.mono (by omega))).trans ⟨rfl, rfl, rfl, by simp, fun b hlt => setRow_other w2 (w.heap.size + 1 + 1 + 1) b _ (by omega)⟩

attribute [local go_sem ↓] Go.wp_at_zero Go.wp_at_succ wp_load_arr wp_store_arr in
set_option maxHeartbeats 1600000 in
set_option maxRecDepth 100000 in
theorem times_any (x y : BitVec 64) (w : World) :
    Calls Try.prog 28 #[.agg (bvV x), .agg (bvV y)] w fun e w' => e = .returned (.agg (bvV (x * y))) ∧ Below w.heap.size w w' := by
  go_enter Try.func28, Try.ntmps28
  go_wp2_with fail
  go_loopw [7] (fun i wr => ∃ k : Nat, k ≤ 64 ∧ i = .int .i64 k ∧ TimesAt x y w wr k) (fun i _ => 64 - (intOf i).toNat)
  case atStart => exact ⟨0, by omega, rfl, _, rfl, at4 _ _ _ _ _, at5 _ _ _ _ _, at6 _ _ _ _ _, by rw [low_0, ← off_bv, arr_zero]; exact at7 _ _ _ _ _, ((((Below.refl _ _).alloc (Nat.le_refl _) _).alloc (by simp) _).alloc (by simp; omega) _).alloc (by simp; omega) _⟩
  case round =>
    obtain ⟨k, hk, rfl, hT⟩ := hrel
    have HT := Lib.hid hT
    obtain ⟨Z, hz, h0, h1, h2, h3, hb⟩ := hT
    by_cases hlt : k < 64
    · have hc := cell_of_row wr (w.heap.size + 1) k _ _ _ h1
      rw [bvV_get _ k hlt] at hc
      have q1 : (k : Int) < 64 := by omega
      cases hp : y.getLsbD k <;> rw [hp] at hc
      · have HN := Lib.hid (HT.out.off hp)
        clear h0 h1 h2 h3 hb hp hz
        go_wp2_with fail
        go_roundw
        case rel => exact ⟨k + 1, by omega, by go_num, HN.out⟩
        case measure => simp [intOf]; omega
      · have HN : Hid (∀ w1 w2 : World, Below wr.drew.heap.size wr.drew w1 → Below w1.heap.size w1 w2 → TimesAt x y w (w2.setRow (w.heap.size + 1 + 1 + 1) (bvV (x * lowB y k + x <<< k))) (k + 1)) := Lib.hid (fun w1 w2 => HT.out.on hlt hp)
        have hs : w.heap.size + 1 + 1 + 1 < wr.heap.size := (Array.getElem?_eq_some_iff.1 h3).1
        obtain ⟨P, hP⟩ : ∃ P, P = x * lowB y k := ⟨_, rfl⟩
        rw [← hP] at h3 HN
        clear hP
        have a1 : rowOk wr.drew w.heap.size = true := rowOk_of (w := wr.drew) h0 (bvV_size _)
        have a2 : rowAt wr.drew w.heap.size = bvV x := rowAt_of (w := wr.drew) h0
        have a3 : rowOk wr.drew (w.heap.size + 1 + 1 + 1) = true := rowOk_of (w := wr.drew) h3 (bvV_size _)
        have a4 : rowAt wr.drew (w.heap.size + 1 + 1 + 1) = bvV P := rowAt_of (w := wr.drew) h3
        have H3 := Lib.hid h3
        clear h0 h1 h2 h3 hb hp hz
        go_wp2_with fail
        go_region_with (first | (go_at_call 39; refine (moved_any x k _ (by omega)).mono ?_; rintro e w1 ⟨rfl, hb1⟩; have c0 := (hb1.block (w.heap.size + 1 + 1 + 1) (by simp; omega)).trans H3.out; have c1 : rowOk w1 (w.heap.size + 1 + 1 + 1) = true := rowOk_of c0 (bvV_size _); have c2 : rowAt w1 (w.heap.size + 1 + 1 + 1) = bvV P := rowAt_of c0; have C1 := Lib.hid c0; have b1 := hb1.size; clear c0) | (go_at_call 26; refine (plus_any _ _ _).mono ?_; rintro e w2 ⟨rfl, hb2⟩; have d0 := Lib.hid ((hb2.block (w.heap.size + 1 + 1 + 1) (by simp at b1; omega)).trans C1.out); have d1 : rowOk w2 (w.heap.size + 1 + 1 + 1) = true := rowOk_of d0.out (bvV_size _)))
        all_goals
          go_wp2_with fail
          go_roundw
          case rel => exact ⟨k + 1, by omega, by go_num, HN.out _ _ hb1 hb2⟩
          case measure => simp [intOf]; omega
    · rw [low_end y k (by omega)] at h3
      clear HT
      go_wp2_with (first | (refine wpList_load_row rfl 54 _ rfl (w.heap.size + 1 + 1 + 1) rfl 54 (bvV (x * y)) (0, 0) _ h3 Try.underlying54 rfl (info_arrV _) ?_) | (refine wpList_store_row rfl 54 _ _ rfl (w.heap.size + 1 + 1) (bvV (x * y)) rfl rfl 54 Z h2 (info_arrV _) (by rw [hz, bvV_size]) (arrV_one _) ?_))
      exact bodyPost_ret (results_cell_row rfl _ _ (w.heap.size + 1 + 1) 54 (bvV (x * y)) (0, 0) _ rfl (setRow_heap wr (w.heap.size + 1 + 1) Z _ _ _ h2) Try.underlying54 rfl (info_arrV _)) rfl ⟨rfl, hb.trans ⟨rfl, rfl, rfl, by simp, fun b hlt => setRow_other wr (w.heap.size + 1 + 1) b _ (by omega)⟩⟩

theorem rone_any (c : Bool) (w : World) :
    Calls Try.prog 30 #[.bool c] w fun e w' => e = .returned (.int .i64 (oneV c)) ∧ w = w' := by
  cases c
  · go_enter Try.func30, Try.ntmps30
    go_wp2_with fail
    go_ret
    exact ⟨rfl, rfl⟩
  · go_enter Try.func30, Try.ntmps30
    go_wp2_with fail
    go_ret
    exact ⟨rfl, rfl⟩
end Go.Proofs.Ytonpbbflloljgaa
