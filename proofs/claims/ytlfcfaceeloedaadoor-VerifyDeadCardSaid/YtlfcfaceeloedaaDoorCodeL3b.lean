/-
  The small program that the laws of chapters 14 and 16 ask first.
-/
import Derived.Test.YtlfcfaceeloedaaDoorCodeL1b
namespace Go.Proofs.YtlfcfaceeloedaaDoor
open Go.RowKit Cd

def tinyI : List In := [(1, -7), (5, 0), (4, 0), (21, 0), (14, 0)]
def tinyF : FnV := ⟨0, [1], 0, tinyI⟩
def tinyP : Pg := ⟨1, [tinyF]⟩
theorem tiny_right : progE tinyP = 0 := by decide
theorem tiny_short : ∀ f ∈ tinyP.fns, f.code.length ≤ 120 := by
  intro f hf
  obtain rfl : f = tinyF := by simpa [tinyP] using hf
  decide

theorem four_cells (w : World) (X0 X1 X2 X3 : Array Value) (t0 t1 t2 t3 : TypeId) :
    (∀ (j : Nat) u, X0[j]? = some u → ((((w.alloc (.cells X0 t0)).alloc (.cells X1 t1)).alloc (.cells X2 t2)).alloc (.cells X3 t3)).cell? ⟨w.heap.size, j, none⟩ = some u) ∧
    (∀ (j : Nat) u, X1[j]? = some u → ((((w.alloc (.cells X0 t0)).alloc (.cells X1 t1)).alloc (.cells X2 t2)).alloc (.cells X3 t3)).cell? ⟨w.heap.size + 1, j, none⟩ = some u) ∧
    (∀ (j : Nat) u, X2[j]? = some u → ((((w.alloc (.cells X0 t0)).alloc (.cells X1 t1)).alloc (.cells X2 t2)).alloc (.cells X3 t3)).cell? ⟨w.heap.size + 1 + 1, j, none⟩ = some u) ∧
    (∀ (j : Nat) u, X3[j]? = some u → ((((w.alloc (.cells X0 t0)).alloc (.cells X1 t1)).alloc (.cells X2 t2)).alloc (.cells X3 t3)).cell? ⟨w.heap.size + 1 + 1 + 1, j, none⟩ = some u) := by
  refine ⟨fun j u hj => ?_, fun j u hj => ?_, fun j u hj => ?_, fun j u hj => ?_⟩
  · have h1 := cell_of_row (w.alloc (.cells X0 t0)) w.heap.size j _ _ _ (heap_alloc_new _ _)
    exact ((((Keeps.refl (fun _ : Nat => False) _).alloc _).alloc _).alloc _).cell_of (h1.trans hj) id
  · have h1 := cell_of_row ((w.alloc (.cells X0 t0)).alloc (.cells X1 t1)) (w.alloc (.cells X0 t0)).heap.size j _ _ _ (heap_alloc_new _ _)
    rw [show (w.alloc (.cells X0 t0)).heap.size = w.heap.size + 1 by simp] at h1
    exact (((Keeps.refl (fun _ : Nat => False) _).alloc _).alloc _).cell_of (h1.trans hj) id
  · have h1 := cell_of_row (((w.alloc (.cells X0 t0)).alloc (.cells X1 t1)).alloc (.cells X2 t2)) ((w.alloc (.cells X0 t0)).alloc (.cells X1 t1)).heap.size j _ _ _ (heap_alloc_new _ _)
    rw [show ((w.alloc (.cells X0 t0)).alloc (.cells X1 t1)).heap.size = w.heap.size + 1 + 1 by simp] at h1
    exact ((Keeps.refl (fun _ : Nat => False) _).alloc _).cell_of (h1.trans hj) id
  · have h1 := cell_of_row ((((w.alloc (.cells X0 t0)).alloc (.cells X1 t1)).alloc (.cells X2 t2)).alloc (.cells X3 t3)) (((w.alloc (.cells X0 t0)).alloc (.cells X1 t1)).alloc (.cells X2 t2)).heap.size j _ _ _ (heap_alloc_new _ _)
    rw [show (((w.alloc (.cells X0 t0)).alloc (.cells X1 t1)).alloc (.cells X2 t2)).heap.size = w.heap.size + 1 + 1 + 1 by simp] at h1
    exact h1.trans hj
theorem tiny_at {W : World} {s : Nat} (hs : s + 1 + 1 + 1 < W.heap.size)
    (h1 : ∀ (j : Nat) u, #[Value.int .i64 1][j]? = some u → W.cell? ⟨s + 1, j, none⟩ = some u)
    (h2 : ∀ (j : Nat) u, #[Value.int .i64 1, .int .i64 (-7), .int .i64 5, .int .i64 0, .int .i64 4, .int .i64 0, .int .i64 21, .int .i64 0, .int .i64 14, .int .i64 0][j]? = some u → W.cell? ⟨s + 1 + 1, j, none⟩ = some u)
    (h3 : ∀ (j : Nat) u, #[Value.int .i64 0, .slice (some ⟨s + 1, 0, none⟩) 1 1, .int .i64 0, .slice (some ⟨s + 1 + 1, 0, none⟩) 5 5][j]? = some u → W.cell? ⟨s + 1 + 1 + 1, j, none⟩ = some u) :
    ProgAt W (.agg #[.int .i64 1, .slice (some ⟨s + 1 + 1 + 1, 0, none⟩) 1 1]) tinyP := by
  refine ⟨_, rfl, _, 1, 1, rfl, rfl, Nat.le_refl _, by decide, fun _ => ⟨s + 1 + 1 + 1, 0, rfl, hs, fun i f hi => ?_⟩⟩
  match i, hi with
  | 0, hi =>
    cases hi
    refine ⟨h3 0 _ rfl, ⟨_, h3 1 _ rfl, _, 1, 1, rfl, rfl, Nat.le_refl _, by decide, fun _ => ⟨s + 1, 0, rfl, by omega, fun i hi => ?_⟩⟩, h3 2 _ rfl, _, h3 3 _ rfl, _, 5, 5, rfl, rfl, Nat.le_refl _, by decide, fun _ => ⟨s + 1 + 1, 0, rfl, by omega, fun i x hi => ?_⟩⟩
    · match i, hi with
      | 0, _ => exact h1 0 _ rfl
    · match i, hi with
      | 0, hi => cases hi; exact ⟨h2 0 _ rfl, h2 1 _ rfl⟩
      | 1, hi => cases hi; exact ⟨h2 2 _ rfl, h2 3 _ rfl⟩
      | 2, hi => cases hi; exact ⟨h2 4 _ rfl, h2 5 _ rfl⟩
      | 3, hi => cases hi; exact ⟨h2 6 _ rfl, h2 7 _ rfl⟩
      | 4, hi => cases hi; exact ⟨h2 8 _ rfl, h2 9 _ rfl⟩

set_option maxRecDepth 100000 in
set_option maxHeartbeats 1600000 in
theorem tiny_any (w : World) : Calls Tryd.prog 34 #[] w fun e w' => ∃ v, e = .returned (.agg #[.int .i64 1, v]) ∧ ProgAt w' (.agg #[.int .i64 1, v]) tinyP ∧ Below w.heap.size w w' := by
  obtain ⟨c0, c1, c2, c3⟩ := four_cells w #[.int .i64 1, .slice (some ⟨w.heap.size + 1 + 1 + 1, 0, none⟩) 1 1] #[.int .i64 1] #[.int .i64 1, .int .i64 (-7), .int .i64 5, .int .i64 0, .int .i64 4, .int .i64 0, .int .i64 21, .int .i64 0, .int .i64 14, .int .i64 0]
    #[.int .i64 0, .slice (some ⟨w.heap.size + 1, 0, none⟩) 1 1, .int .i64 0, .slice (some ⟨w.heap.size + 1 + 1, 0, none⟩) 5 5] 24 3 37 47
  have q0 := c0 0 _ rfl
  have q1 := c0 1 _ rfl
  have HP := Lib.hid (tiny_at (by simp) c1 c2 c3)
  have hb := ((((Below.refl w.heap.size w).alloc (Nat.le_refl _) (.cells #[.int .i64 1, .slice (some ⟨w.heap.size + 1 + 1 + 1, 0, none⟩) 1 1] 24)).alloc (by simp) (.cells #[.int .i64 1] 3)).alloc (by simp; omega) (.cells #[.int .i64 1, .int .i64 (-7), .int .i64 5, .int .i64 0, .int .i64 4, .int .i64 0, .int .i64 21, .int .i64 0, .int .i64 14, .int .i64 0] 37)).alloc (by simp; omega) (.cells #[.int .i64 0, .slice (some ⟨w.heap.size + 1, 0, none⟩) 1 1, .int .i64 0, .slice (some ⟨w.heap.size + 1 + 1, 0, none⟩) 5 5] 47)
  have HB := Lib.hid hb
  clear c0 c1 c2 c3 hb
  go_enter Tryd.func34, Tryd.ntmps34
  go_wp2_with fail
  refine bodyPost_ret (v := .agg #[.int .i64 1, .slice (some ⟨w.heap.size + 1 + 1 + 1, 0, none⟩) 1 1]) (by simp [results, Tryd.results34, go_sem] <;> rfl) rfl ?_
  exact ⟨_, rfl, HP.out, HB.out⟩
theorem agg2_snd {a b c d : Value} (h : Value.agg #[a, b] = .agg #[c, d]) : b = d := by
  injection h with h
  injection h with h
  injection h with _ h
  injection h
end Go.Proofs.YtlfcfaceeloedaaDoor
