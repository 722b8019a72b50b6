/-
  The mathematics of merging in place: what is left of it behind the rotation.
-/
import Derived.Test.YtonpbbflloljgaaStabS2
namespace Go.Proofs.Ytonpbbflloljgaa
open Go.RowKit
namespace St

theorem rot_triv (f : Nat → Nat) (s m e : Nat) (h1 : s ≤ m) (h2 : m ≤ e) (h : s = m ∨ e = m) : rot f s m e = f := by
  funext k
  simp only [rot]
  (repeat' split) <;> first | rfl | (exact congrArg f (by omega)) | (exfalso; omega)
theorem rot_lo (f : Nat → Nat) (s m e k : Nat) (h : k < s) : rot f s m e k = f k := by
  unfold rot; rw [if_neg (by omega), if_neg (by omega)]
theorem rot_mid (f : Nat → Nat) (s m e k : Nat) (h1 : s ≤ k) (h2 : k < s + (e - m)) : rot f s m e k = f (k - s + m) := by
  unfold rot; rw [if_pos ⟨h1, h2⟩]
theorem rot_hi (f : Nat → Nat) (s m e k : Nat) (h1 : s + (e - m) ≤ k) (h2 : k < e) : rot f s m e k = f (k - (e - m)) := by
  unfold rot; rw [if_neg (by omega), if_pos ⟨h1, h2⟩]
theorem rot_up (f : Nat → Nat) (s m e k : Nat) (h0 : s ≤ m) (h1 : m ≤ e) (h : e ≤ k) : rot f s m e k = f k := by
  unfold rot; rw [if_neg (by omega), if_neg (by omega)]

theorem two_left {key : Nat → Int} {f : Nat → Nat} {a s m e mid b : Nat} (h : Two2 key a m b f) (q2 : s ≤ m) (q3 : m ≤ e) (q4 : e ≤ b) (q5 : mid = s + (e - m)) : Two2 key a s mid (rot f s m e) := by
  refine ⟨fun i j h1 h2 h3 => ?_, fun i j h1 h2 h3 => ?_, fun i j h1 h2 h3 h4 => ?_⟩
  · rw [rot_lo f s m e i (by omega), rot_lo f s m e j h3]; exact h.l i j h1 h2 (by omega)
  · rw [rot_mid f s m e i h1 (by omega), rot_mid f s m e j (by omega) (by omega)]; exact h.r _ _ (by omega) (by omega) (by omega)
  · rw [rot_lo f s m e i h2, rot_mid f s m e j h3 (by omega)]; exact h.ids _ _ h1 (by omega) (by omega) (by omega)
theorem two_right {key : Nat → Int} {f g : Nat → Nat} {a s m e mid b : Nat} (h : Two2 key a m b f) (q1 : a ≤ s) (q2 : s ≤ m) (q3 : m ≤ e) (q5 : mid = s + (e - m)) (hg : Did a mid (rot f s m e) g) : Two2 key mid e b g := by
  have lo : ∀ k, mid ≤ k → k < e → g k = f (k - (e - m)) := fun k h1 h2 => by
    rw [hg.out k (Or.inr h1), rot_hi f s m e k (by omega) h2]
  have up : ∀ k, e ≤ k → g k = f k := fun k h1 => by
    rw [hg.out k (Or.inr (by omega)), rot_up f s m e k q2 q3 h1]
  refine ⟨fun i j h1 h2 h3 => ?_, fun i j h1 h2 h3 => ?_, fun i j h1 h2 h3 h4 => ?_⟩
  · rw [lo i h1 (by omega), lo j (by omega) h3]; exact h.l _ _ (by omega) (by omega) (by omega)
  · rw [up i h1, up j (by omega)]; exact h.r i j (by omega) h2 h3
  · rw [lo i h1 h2, up j h3]; exact h.ids _ _ (by omega) (by omega) (by omega) h4
theorem one_side {key : Nat → Int} {f : Nat → Nat} {a m b : Nat} (h : Two2 key a m b f) (e : a = m ∨ m = b) : Sorted key a b f := by
  rcases e with rfl | rfl
  · exact h.r
  · exact h.l
theorem merge_done {key : Nat → Int} {f g2 g3 : Nat → Nat} {a s m e mid b : Nat} (h : Two2 key a m b f) (q1 : a ≤ s) (q2 : s ≤ m) (q3 : m ≤ e) (q4 : e ≤ b) (q5 : mid = s + (e - m))
    (hA : a < s → e < b → R key (f (s - 1)) (f e)) (hB : s < m → m < e → R key (f (e - 1)) (f s))
    (s2 : Sorted key a mid g2) (d2 : Did a mid (rot f s m e) g2) (s3 : Sorted key mid b g3) (d3 : Did mid b g2 g3) : Sorted key a b g3 ∧ Did a b f g3 := by
  have cross : ∀ i j, a ≤ i → i < mid → mid ≤ j → j < b → R key (rot f s m e i) (rot f s m e j) := fun i j h1 h2 h3 h4 => by
    by_cases hi : i < s
    · rw [rot_lo f s m e i hi]
      by_cases hj : j < e
      · rw [rot_hi f s m e j (by omega) hj]; exact h.l _ _ h1 (by omega) (by omega)
      · rw [rot_up f s m e j q2 q3 (by omega)]
        have ha := hA (by omega) (by omega)
        have x1 : R key (f i) (f e) := by
          by_cases c : i = s - 1
          · rw [c]; exact ha
          · exact R.trans (h.l i (s - 1) h1 (by omega) (by omega)) ha
        by_cases c : j = e
        · rw [c]; exact x1
        · exact R.trans x1 (h.r e j q3 (by omega) h4)
    · rw [rot_mid f s m e i (by omega) (by omega)]
      by_cases hj : j < e
      · rw [rot_hi f s m e j (by omega) hj]
        have hb := hB (by omega) (by omega)
        have x1 : R key (f (i - s + m)) (f s) := by
          by_cases c : i - s + m = e - 1
          · rw [c]; exact hb
          · exact R.trans (h.r _ _ (by omega) (by omega) (by omega)) hb
        by_cases c : j - (e - m) = s
        · rw [c]; exact x1
        · exact R.trans x1 (h.l s _ q1 (by omega) (by omega))
      · rw [rot_up f s m e j q2 q3 (by omega)]; exact h.r _ _ (by omega) (by omega) h4
  constructor
  · intro i j h1 h2 h3
    by_cases hi : i < mid
    · by_cases hj : j < mid
      · rw [d3.out i (Or.inl hi), d3.out j (Or.inl hj)]; exact s2 i j h1 h2 hj
      · obtain ⟨j', k1, k2, ej⟩ := d3.to j (by omega) h3
        obtain ⟨i', k3, k4, ei⟩ := d2.to i h1 hi
        rw [d3.out i (Or.inl hi), ei, ej, d2.out j' (Or.inr k1)]
        exact cross i' j' k3 k4 k1 k2
    · exact s3 i j (by omega) h2 h3
  · exact ((rot_did f s m e q2 q3).wide q1 q4).trans ((d2.wide (Nat.le_refl _) (by omega)).trans (d3.wide (by omega) (Nat.le_refl _)))
end St
end Go.Proofs.Ytonpbbflloljgaa
