/-
  What a ring holds, laid into a row of its own.
-/
import Derived.Test.YtpehmghnfbkaaaaRingI3
namespace Go.Proofs.Ytpehmghnfbkaaaa
open Go.RowKit

/-- A row of its own behind w's heap, filled so far. -/
structure FillI (w w' : World) (l : List Int) (k : Nat) : Prop where
  keep : Keeps (fun _ => False) w w'
  lt : w.heap.size < w'.heap.size
  cell : ∀ j, j < l.length → ∃ v, w'.cell? ⟨w.heap.size, j, none⟩ = some v ∧ (j < k → v = eI (l.getD j 0))
  free : ∀ j, j < l.length → w'.frozen? ⟨w.heap.size, j, none⟩ = false
section
variable {w w' : World} {l : List Int} {k : Nat}
theorem FillI.new (w : World) (l : List Int) (t : TypeId) : FillI w (w.alloc (.cells (madeCells #[eI 0] l.length) t)) l 0 := by
  refine ⟨(Keeps.refl _ _).alloc _, by simp, fun j hj => ⟨eI 0, ?_, fun h => by omega⟩, fun j _ => ?_⟩
  · rw [World.cell?_alloc_at _ _ _ _ rfl]
    exact made_get _ _ j hj
  · rw [World.frozen?_alloc_at _ _ _ _ rfl]
theorem FillI.set (h : FillI w w' l k) (hk : k < l.length) (m : Nat) : FillI w ((w'.drewN m).setCell ⟨w.heap.size, k, none⟩ (eI (l.getD k 0))) l (k + 1) := by
  obtain ⟨v0, hc0, -⟩ := h.cell k hk
  refine ⟨(keeps_drewN h.keep m).setCell (Or.inr (Nat.le_refl _)) _, ?_, fun j hj => ?_, fun j hj => ?_⟩
  · have := h.lt
    simpa using this
  · by_cases e : j = k
    · subst e
      exact ⟨_, cell_set_same (w := w'.drewN m) hc0, fun _ => rfl⟩
    · obtain ⟨v, hc, hv⟩ := h.cell j hj
      exact ⟨v, by rw [cell_set_other (off_ne (fun e' => e e'.symm) _)]; exact hc, fun hjk => hv (by omega)⟩
  · rw [World.frozen?_setCell]; exact h.free j hj
theorem FillI.drewN (h : FillI w w' l k) (m : Nat) : FillI w (w'.drewN m) l k := ⟨keeps_drewN h.keep m, h.lt, h.cell, h.free⟩
end

set_option maxRecDepth 100000 in
set_option maxHeartbeats 3200000 in
theorem listI_any {rb sb n : Nat} {l : List Int} (w : World) (h : RingL eI w rb sb n l) : Calls Try.prog 44 #[.pointer (some ⟨rb, 0, none⟩)] w fun e w' =>
    e = .returned (.slice (some ⟨w.heap.size, 0, none⟩) l.length l.length) ∧ FillI w w' l l.length := by
  obtain ⟨row, f, rfl, h⟩ := h
  have HH := Lib.hid h
  have c0 := h.c0
  have c2 := h.c2
  have ht := h.top
  have hcn := h.cnt
  have hmk := make_elI l.length (by omega)
  clear h
  go_enter Try.func44, Try.ntmps44
  go_wp2_with fail
  have HF : Hid (FillI w (w.alloc (.cells (madeCells #[eI 0] l.length) 3)) l 0) := Lib.hid (FillI.new w l _)
  go_loopw [12] (fun t wr => ∃ k : Nat, k ≤ l.length ∧ t = .int .i64 k ∧ FillI w wr l k) (fun t _ => l.length - (intOf t).toNat)
  case atStart => exact ⟨0, Nat.zero_le _, rfl, HF.out⟩
  case round =>
    obtain ⟨k, hk, rfl, hF⟩ := hrel
    clear HF
    by_cases hkl : k < l.length
    · have HR : Hid (RingAt eI wr rb sb row f l) := Lib.hid (HH.out.keeps hF.keep id id)
      have r0 := HR.out.c0
      have hf : f < row.length := by have := HH.out.fst; omega
      have hj : (f + k) % row.length < row.length := Nat.mod_lt _ (by omega)
      have hx : l[k]? = some (l.getD k 0) := by rw [List.getD_eq_getElem?_getD, List.getElem?_eq_getElem hkl]; rfl
      have hc := HR.out.cell _ _ (HR.out.holds k _ hx)
      have h64 : k ≤ 64 := by omega
      have hn0 : 0 < row.length := by omega
      have HS : Hid (∀ W : World, RingAt eI W rb sb row f l → Calls Try.prog 46 #[.pointer (some ⟨rb, 0, none⟩), .int .i64 k] W fun e w' => e = .returned (.int .i64 ((f + k) % row.length : Nat)) ∧ ∃ n, w' = W.drewN n) := Lib.hid fun W hW => slotI_any W hW k h64 hn0
      obtain ⟨v0, hc0, -⟩ := hF.cell k hkl
      have hz0 := hF.free k hkl
      have HF1 : Hid (∀ m, FillI w ((wr.drewN m).setCell ⟨w.heap.size, k, none⟩ (eI (l.getD k 0))) l (k + 1)) := Lib.hid fun m => hF.set hkl m
      generalize (f + k) % row.length = j at *
      generalize l.getD k 0 = x at *
      have hji : (0 : Int) ≤ (j : Int) ∧ (j : Int) < (row.length : Int) := by omega
      have hki : (0 : Int) ≤ (k : Int) ∧ (k : Int) < (l.length : Int) := by omega
      clear hF hx
      go_wp2_with fail
      go_region_with (go_at_call 46; refine (HS.out _ ?_).mono ?_; (first | exact HR.out.drewN _ | exact (HR.out.drewN _).drewN _); rintro e w' ⟨rfl, m, rfl⟩)
      all_goals
        go_wp2_with fail
        go_roundw
        case rel => exact ⟨k + 1, by omega, by go_num, HF1.out _⟩
        case measure => simp [intOf]; omega
    · obtain rfl : k = l.length := by omega
      have hki : ¬ (l.length : Int) < (l.length : Int) := by omega
      go_wp2_with fail
      go_ret
      exact ⟨rfl, hF⟩
end Go.Proofs.Ytpehmghnfbkaaaa
