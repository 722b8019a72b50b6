/-
  Whether a program is too big to be held.
-/
import Derived.Test.YtlfcfaceeloedaaDoorCodeW2
import Derived.Test.YtlfcfaceeloedaaDoorBlkO
import Derived.Deep.RegionHeld3
import Derived.Deep.DeepCutAuto
import Derived.Deep.CutRange
namespace Go.Proofs.YtlfcfaceeloedaaDoor
open Go.RowKit Cd

theorem below_drewK {B : Nat} {a w : World} (h : Below B a w) (n : Nat) : Below B a (w.drewN n) := ⟨h.os, h.tape, h.output, h.size, h.block⟩

/-- Whether a program is too big to be held. -/
def bigB (p : Pg) : Bool := decide (14 < p.fns.length) || p.fns.any fun f => decide (14 < f.locals.length) || decide (120 < f.code.length)
theorem big_no {p : Pg} (h : bigB p = false) : p.fns.length ≤ 14 ∧ ∀ f ∈ p.fns, f.locals.length ≤ 14 ∧ f.code.length ≤ 120 := by
  unfold bigB at h
  rw [Bool.or_eq_false_iff] at h
  refine ⟨by simpa using h.1, fun f hf => ?_⟩
  have h2 := h.2
  rw [List.any_eq_false] at h2
  have := h2 f hf
  simp at this
  exact this
theorem big_at {p : Pg} {k : Nat} {f : FnV} (hf : p.fns[k]? = some f) (h : 14 < f.locals.length ∨ 120 < f.code.length) : bigB p = true := by
  unfold bigB
  rw [Bool.or_eq_true, List.any_eq_true]
  exact Or.inr ⟨f, List.mem_of_getElem? hf, by simpa using h⟩
theorem big_all {p : Pg} (h0 : p.fns.length ≤ 14) (h : ∀ (k : Nat) f, p.fns[k]? = some f → ¬ (14 < f.locals.length ∨ 120 < f.code.length)) : bigB p = false := by
  unfold bigB
  rw [Bool.or_eq_false_iff, List.any_eq_false]
  refine ⟨by simpa using h0, fun f hf => ?_⟩
  obtain ⟨k, hk, rfl⟩ := List.mem_iff_getElem.1 hf
  have := h k _ (List.getElem?_eq_getElem hk)
  simp
  omega

set_option maxRecDepth 100000 in
set_option maxHeartbeats 3200000 in
theorem big_any (p : Pg) (v : Value) (w : World) (hp : ProgAt w v p) :
    Calls Tryd.prog 14 #[v] w fun e w' => e = .returned (.bool (bigB p)) ∧ Below w.heap.size w w' := by
  obtain ⟨vf, rfl, ao, n, cap, rfl, hn, hnc, hcm, hx⟩ := hp
  unfold maxLen at hcm
  have hb0 := (Below.refl w.heap.size w).alloc (Nat.le_refl _) (.cells #[.int .i64 p.globals, .slice ao n cap] 24)
  have HB0 := Lib.hid hb0
  have HN := Lib.hid hn
  have HX : Hid (0 < n → ∃ b o, ao = some ⟨b, o, none⟩ ∧ ∀ i f, p.fns[i]? = some f → FnAt (w.alloc (.cells #[.int .i64 p.globals, .slice ao n cap] 24)) b (o + i * 4) f) := Lib.hid fun h0 => by
    obtain ⟨b, o, h1, h2, h3⟩ := hx h0
    exact ⟨b, o, h1, fun i f hi => (h3 i f hi).below hb0⟩
  obtain ⟨gl, hgl⟩ : ∃ gl, gl = p.globals := ⟨_, rfl⟩
  rw [← hgl] at HX HB0 ⊢
  have hx1 := cell_of_row (w.alloc (.cells #[.int .i64 gl, .slice ao n cap] 24)) w.heap.size 1 _ _ _ (heap_alloc_new _ _)
  clear hb0 hx hn hgl
  go_enter Tryd.func14, Tryd.ntmps14
  by_cases h14 : 14 < n
  · have h14i : (14 : Int) < (n : Int) := by omega
    have HBT : Hid (bigB p = true) := Lib.hid (by unfold bigB; rw [← HN.out, decide_eq_true h14]; rfl)
    go_wp2_with fail
    go_ret
    exact ⟨by rw [HBT.out]; rfl, HB0.out⟩
  have h14i : ¬ (14 : Int) < (n : Int) := by omega
  go_upto_region 1 with fail
  generalize w.alloc (.cells #[.int .i64 gl, .slice ao n cap] 24) = W1 at *
  have hx1' : W1.cell? ⟨w.heap.size, 1, none⟩ = some (.slice ao n cap) := hx1
  clear hx1
  go_wp2_with fail
  go_loopw [3] (fun iv wr => ∃ k : Nat, k ≤ n ∧ iv = .int .i64 k ∧ Hid (∀ (j : Nat) f, j < k → p.fns[j]? = some f → ¬ (14 < f.locals.length ∨ 120 < f.code.length)) ∧ wr = W1) (fun iv _ => n - (intOf iv).toNat)
  case atStart => exact ⟨0, Nat.zero_le _, rfl, Lib.hid (fun _ _ h => absurd h (Nat.not_lt_zero _)), rfl⟩
  case round =>
    obtain ⟨k, hk, rfl, hall, hwr⟩ := hrel
    subst hwr
    by_cases hkn : k < n
    · obtain ⟨b, o, rfl, hfn⟩ := HX.out (by omega)
      obtain ⟨f, hf⟩ : ∃ f, p.fns[k]? = some f := ⟨_, List.getElem?_eq_getElem (by rw [← HN.out]; exact hkn)⟩
      obtain ⟨hc1, ⟨vl, hc2, a1, n1, c1, rfl, hn1, hnc1, hcm1, -⟩, hc3, vc, hc4, a2, n2, c2, rfl, hn2, hnc2, hcm2, -⟩ := hfn k f hf
      have HF := Lib.hid hf
      have HNN : Hid (n1 = f.locals.length ∧ n2 = f.code.length) := Lib.hid ⟨hn1, hn2⟩
      have hi1 : (0 : Int) ≤ (k : Int) ∧ (k : Int) < (n : Int) := by omega
      unfold maxLen at hcm1 hcm2
      clear hfn hf hn1 hn2 hc1 hc3 HX
      by_cases g1 : 14 < n1
      · have g1i : (14 : Int) < (n1 : Int) := by omega
        have HBT : Hid (bigB p = true) := Lib.hid (big_at HF.out (Or.inl (by rw [← HNN.out.1]; exact g1)))
        go_wp2_with fail
        go_ret
        exact ⟨by rw [HBT.out]; rfl, HB0.out⟩
      · have g1i : ¬ (14 : Int) < (n1 : Int) := by omega
        by_cases g2 : 120 < n2
        · have g2i : (120 : Int) < (n2 : Int) := by omega
          have HBT : Hid (bigB p = true) := Lib.hid (big_at HF.out (Or.inr (by rw [← HNN.out.2]; exact g2)))
          go_wp2_with fail
          go_ret
          exact ⟨by rw [HBT.out]; rfl, HB0.out⟩
        · have g2i : ¬ (120 : Int) < (n2 : Int) := by omega
          have HK : Hid (∀ (j : Nat) f, j < k + 1 → p.fns[j]? = some f → ¬ (14 < f.locals.length ∨ 120 < f.code.length)) := Lib.hid fun j f' hj hf' => by
            by_cases e : j = k
            · subst e
              rw [HF.out] at hf'
              cases hf'
              rw [← HNN.out.1, ← HNN.out.2]
              omega
            · exact hall.out j f' (by omega) hf'
          clear hall
          go_wp2_with fail
          go_roundw
          case rel => exact ⟨k + 1, by omega, by go_num, HK, trivial⟩
          case measure => simp [intOf]; omega
    · obtain rfl : k = n := by omega
      have HBF : Hid (bigB p = false) := Lib.hid (big_all (by rw [← HN.out]; omega) fun j f hf => hall.out j f (by have := (List.getElem?_eq_some_iff.1 hf).1; rw [HN.out]; exact this) hf)
      have hkk : ¬ (k : Int) < (k : Int) := by omega
      clear hall HX
      go_wp2_with fail
      go_ret
      exact ⟨by rw [HBF.out]; rfl, HB0.out⟩
end Go.Proofs.YtlfcfaceeloedaaDoor
