/-
  The walk of package wire's readPart.
-/
import Derived.Test.YtjdihgmngiplkaaDoorWireW2
namespace Go.Proofs.YtjdihgmngiplkaaDoor
open Go.RowKit

theorem part_block {w w1 : World} (h : Below (w.alloc (.cells #[.int .u8 0, .string ByteArray.empty] 51)).heap.size (w.alloc (.cells #[.int .u8 0, .string ByteArray.empty] 51)) w1) :
    w1.cell? ⟨w.heap.size, 0, none⟩ = some (.int .u8 0) ∧ w1.cell? ⟨w.heap.size, 1, none⟩ = some (.string ByteArray.empty) ∧ w1.frozen? ⟨w.heap.size, 0, none⟩ = false ∧ w1.frozen? ⟨w.heap.size, 1, none⟩ = false := by
  have hlt : w.heap.size < (w.alloc (.cells #[.int .u8 0, .string ByteArray.empty] 51)).heap.size := by simp
  rw [h.cell (p := ⟨w.heap.size, 0, none⟩) hlt, h.cell (p := ⟨w.heap.size, 1, none⟩) hlt, h.frozen (p := ⟨w.heap.size, 0, none⟩) hlt, h.frozen (p := ⟨w.heap.size, 1, none⟩) hlt]
  refine ⟨?_, ?_, frozen_of_row _ _ _ _ _ (heap_alloc_new _ _), frozen_of_row _ _ _ _ _ (heap_alloc_new _ _)⟩
  · rw [cell_of_row _ _ _ _ _ _ (heap_alloc_new _ _)]; rfl
  · rw [cell_of_row _ _ _ _ _ _ (heap_alloc_new _ _)]; rfl
theorem part_stored {w1 : World} {p : Nat} {v0 v1 o0 o1 : Value} (h0 : w1.cell? ⟨p, 0, none⟩ = some o0) (h1 : w1.cell? ⟨p, 1, none⟩ = some o1) :
    ((w1.setCell ⟨p, 0, none⟩ v0).setCell ⟨p, 1, none⟩ v1).cell? ⟨p, 0, none⟩ = some v0 ∧ ((w1.setCell ⟨p, 0, none⟩ v0).setCell ⟨p, 1, none⟩ v1).cell? ⟨p, 1, none⟩ = some v1 := by
  refine ⟨?_, ?_⟩
  · rw [World.cell?_setCell_other _ _ _ _ (by intro e; cases e), World.cell?_setCell_same _ _ _ h0]
  · exact World.cell?_setCell_same _ _ _ (by rw [World.cell?_setCell_other _ _ _ _ (by intro e; cases e)]; exact h1)
theorem part_below {w w1 : World} {v0 v1 : Value} (h : Below (w.alloc (.cells #[.int .u8 0, .string ByteArray.empty] 51)).heap.size (w.alloc (.cells #[.int .u8 0, .string ByteArray.empty] 51)) w1) :
    Below w.heap.size w ((w1.setCell ⟨w.heap.size, 0, none⟩ v0).setCell ⟨w.heap.size, 1, none⟩ v1) :=
  (((below_alloc2 w _).trans (h.mono (by simp))).setCell (p := ⟨w.heap.size, 0, none⟩) (Nat.le_refl _) _).setCell (p := ⟨w.heap.size, 1, none⟩) (Nat.le_refl _) _

set_option maxRecDepth 100000 in
set_option maxHeartbeats 1600000 in
theorem readPart_any (s b : ByteArray) (a t nx re : Nat) (w : World) (hs : s.size ≤ 1000000) (ha : a ≤ s.size) (hR : RP s a t b nx re) (hL : Leaves w) :
    Calls Tryd.prog 101 #[.string s, .int .i64 a] w fun e w' => e = .returned (.tuple #[.agg #[.int .u8 (t : Int), .string b], .int .i64 nx, errV re]) ∧ Below w.heap.size w w' := by
  have HL := Lib.hid hL
  clear hL
  rcases hR with ⟨e, h1, h2, h3, h4, h5, rfl, rfl⟩ | ⟨rfl, rfl, rfl, hR⟩
  · have HT := Lib.hid h2
    have HF := Lib.hid h4
    have hae := h2.le (by omega)
    have hta : (s[a].toNat : Int) = (t : Int) := by rw [h5, bs_getD s a h1]
    have hbs : b.size ≤ 1000000 := by omega
    clear h2 h4 h5
    go_enter Tryd.func101, Tryd.ntmps101
    go_wp2_with fail
    refine (readText_any s b (a + 1) e 0 _ hs (by omega) HT.out).mono ?_
    rintro e1 w1 ⟨rfl, hb1⟩
    rw [errV_0]
    have HL1 := Lib.hid (Leaves.next HL.out ((below_alloc2 w _).trans (hb1.mono (by simp))))
    go_wp2_with fail
    refine (sumFits_any s a e true _ hs (by omega) h3 ⟨fun _ => HF.out, fun _ => rfl⟩ HL1.out).mono ?_
    rintro e2 w2 ⟨rfl, hb2⟩
    have hb12 := hb1.trans (hb2.mono hb1.size)
    obtain ⟨hp0, hp1, hf0, hf1⟩ := part_block hb12
    obtain ⟨hq0, hq1⟩ := part_stored (v0 := .int .u8 (t : Int)) (v1 := .string b) hp0 hp1
    have HBB := Lib.hid (part_below (v0 := .int .u8 (t : Int)) (v1 := .string b) hb12)
    clear hb1 hb2 hb12
    go_wp2_with fail
    refine bodyPost_ret (v := .tuple #[.agg #[.int .u8 (t : Int), .string b], .int .i64 ((e : Int) + 4), .nilIface]) (by simp [results, Tryd.results101, go_sem, *] <;> rfl) rfl ?_
    exact ⟨rfl, HBB.out⟩
  · rcases hR with ⟨h1, rfl⟩ | ⟨h1, h2, rfl⟩ | ⟨e, b', h1, h2, h3, rfl⟩ | ⟨e, b', h1, h2, h3, h4, rfl⟩
    · obtain rfl : a = s.size := by omega
      go_enter Tryd.func101, Tryd.ntmps101
      go_wp2_with fail
      refine bodyPost_ret (v := .tuple #[.agg #[.int .u8 0, .string ByteArray.empty], .int .i64 0, .iface 26 (.int .i64 3)]) (by simp [results, Tryd.results101, go_sem] <;> rfl) rfl ?_
      exact ⟨rfl, below_alloc2 w _⟩
    · have HT := Lib.hid h2
      clear h2
      go_enter Tryd.func101, Tryd.ntmps101
      go_wp2_with fail
      refine (readText_any s _ (a + 1) 0 3 _ hs (by omega) HT.out).mono ?_
      rintro e w1 ⟨rfl, hb1⟩
      rw [errV_3]
      obtain ⟨hp0, hp1, hf0, hf1⟩ := part_block hb1
      obtain ⟨hq0, hq1⟩ := part_stored (v0 := .int .u8 0) (v1 := .string ByteArray.empty) hp0 hp1
      have HBB := Lib.hid (part_below (v0 := .int .u8 0) (v1 := .string ByteArray.empty) hb1)
      clear hb1
      go_wp2_with fail
      refine bodyPost_ret (v := .tuple #[.agg #[.int .u8 0, .string ByteArray.empty], .int .i64 0, .iface 26 (.int .i64 3)]) (by simp [results, Tryd.results101, go_sem, *] <;> rfl) rfl ?_
      exact ⟨rfl, HBB.out⟩
    · have HT := Lib.hid h2
      have hae := h2.le (by omega)
      have hlt : (s.size : Int) - (e : Int) < 4 := by omega
      clear h2
      go_enter Tryd.func101, Tryd.ntmps101
      go_wp2_with fail
      refine (readText_any s b' (a + 1) e 0 _ hs (by omega) HT.out).mono ?_
      rintro e1 w1 ⟨rfl, hb1⟩
      rw [errV_0]
      obtain ⟨hp0, hp1, hf0, hf1⟩ := part_block hb1
      obtain ⟨hq0, hq1⟩ := part_stored (v0 := .int .u8 0) (v1 := .string ByteArray.empty) hp0 hp1
      have HBB := Lib.hid (part_below (v0 := .int .u8 0) (v1 := .string ByteArray.empty) hb1)
      clear hb1
      go_wp2_with fail
      refine bodyPost_ret (v := .tuple #[.agg #[.int .u8 0, .string ByteArray.empty], .int .i64 0, .iface 26 (.int .i64 3)]) (by simp [results, Tryd.results101, go_sem, *] <;> rfl) rfl ?_
      exact ⟨rfl, HBB.out⟩
    · have HT := Lib.hid h2
      have HF := Lib.hid h4
      have hae := h2.le (by omega)
      clear h2 h4
      go_enter Tryd.func101, Tryd.ntmps101
      go_wp2_with fail
      refine (readText_any s b' (a + 1) e 0 _ hs (by omega) HT.out).mono ?_
      rintro e1 w1 ⟨rfl, hb1⟩
      rw [errV_0]
      have HL1 := Lib.hid (Leaves.next HL.out ((below_alloc2 w _).trans (hb1.mono (by simp))))
      go_wp2_with fail
      refine (sumFits_any s a e false _ hs (by omega) h3 ⟨fun h => Bool.noConfusion h, fun h => absurd h HF.out⟩ HL1.out).mono ?_
      rintro e2 w2 ⟨rfl, hb2⟩
      have hb12 := hb1.trans (hb2.mono hb1.size)
      obtain ⟨hp0, hp1, hf0, hf1⟩ := part_block hb12
      obtain ⟨hq0, hq1⟩ := part_stored (v0 := .int .u8 0) (v1 := .string ByteArray.empty) hp0 hp1
      have HBB := Lib.hid (part_below (v0 := .int .u8 0) (v1 := .string ByteArray.empty) hb12)
      clear hb1 hb2 hb12
      go_wp2_with fail
      refine bodyPost_ret (v := .tuple #[.agg #[.int .u8 0, .string ByteArray.empty], .int .i64 0, .iface 26 (.int .i64 15)]) (by simp [results, Tryd.results101, go_sem, *] <;> rfl) rfl ?_
      exact ⟨rfl, HBB.out⟩
end Go.Proofs.YtjdihgmngiplkaaDoor
