/-
  The reference's mayEnd.
-/
import Derived.Test.YthkfdhglgonmnaaGreatDoorRefLex3
import Derived.Test.YthkfdhglgonmnaaGreatDoorLexRow
namespace Go.Proofs.YthkfdhglgonmnaaGreatDoor
open Go.RowKit Lx

def mayR (k : Nat) (t : B) : Bool := decide (k = 1) || decide (k = 3) || t == [41] || t == [125] || (decide (k = 2) && endsL.contains t)

set_option maxRecDepth 100000 in
set_option maxHeartbeats 1600000 in
theorem rMayEnd_nil (w : World) : Calls Tryz.prog 28 #[.slice none 0 0] w fun e w' => e = .returned (.bool false) ∧ Below w.heap.size w w' := by
  go_enter Tryz.func28, Tryz.ntmps28
  go_wp2_with fail
  go_ret
  exact ⟨rfl, Below.refl _ _⟩

set_option linter.unusedSimpArgs false in
set_option maxRecDepth 100000 in
set_option maxHeartbeats 6400000 in
theorem rMayEnd_any (ts : List Tok) (t : Tok) (v : Value) (w : World) (h : RowT w v ts) (hl : ts[ts.length - 1]? = some t) (hn : ts.length ≤ 10000) (ht : t.text.length ≤ 4000) (hk : t.kind = 2 → noSp t.text = true) (hM : MaxL w) :
    Calls Tryz.prog 28 #[v] w fun e w' => e = .returned (.bool (mayR t.kind t.text)) ∧ Below w.heap.size w w' := by
  rcases h with ⟨_, h0⟩ | ⟨g, cap, rfl, h1, h2, h3, h4⟩
  · subst h0; cases hl
  obtain ⟨a1, a2, a3⟩ := h4 _ _ hl
  have hpos : 0 < ts.length := by
    cases ts with
    | nil => cases hl
    | cons a b => simp
  clear h4 hl
  obtain ⟨k, txt, at_⟩ := t
  simp only at a1 a2 a3 ht hk ⊢
  have HC : Hid (k = 2 → ∀ W : World, MaxL W → Calls Tryz.prog 38 #[.string endsT, .string (⟨#[32]⟩ ++ mkT txt ++ ⟨#[32]⟩)] W fun e w' => e = .returned (.bool (endsL.contains txt)) ∧ w' = W) := Lib.hid fun hk2 W hW => by
    obtain ⟨m, hm⟩ := hW
    have H2 := Tryz.strings_Contains endsT (⟨#[32]⟩ ++ mkT txt ++ ⟨#[32]⟩) m W (by decide +kernel) hm
    have e2 : (⟨#[32]⟩ ++ mkT txt ++ ⟨#[32]⟩ : ByteArray).data.toList = 32 :: (txt ++ [32]) := by simp [mkT]
    rw [e2, endsT_eq, contains_spaced _ _ endsL_noSp (hk hk2)] at H2
    exact H2
  have HM := Lib.hid hM
  have e41 : (txt == [41]) = ((mkT txt).toList == [41]) := by rw [Lib.toList_data]; rfl
  have e125 : (txt == [125]) = ((mkT txt).toList == [125]) := by rw [Lib.toList_data]; rfl
  unfold mayR
  rw [e41, e125]
  clear hk hM e41 e125
  obtain ⟨i, hi⟩ : ∃ i, i + 1 = ts.length := ⟨ts.length - 1, by omega⟩
  have hj : ts.length - 1 = i := by omega
  rw [hj] at a1 a2 a3
  rw [← hi] at h1 hn ⊢
  clear hi hj hpos
  generalize endsL.contains txt = c at *
  have hx : (mkT txt).size ≤ 4000 := by rw [mkT_size]; exact ht
  generalize mkT txt = x at *
  have hx1 : ¬ 9223372036854775807 < 1 + x.size := by omega
  have hx2 : ¬ 9223372036854775807 < 1 + x.size + 1 := by omega
  clear ht hx
  have i1 : ((k : Int) = 1) ↔ k = 1 := by omega
  have i2 : ((k : Int) = 2) ↔ k = 2 := by omega
  have i3 : ((k : Int) = 3) ↔ k = 3 := by omega
  have n0 : ¬ (((i + 1 : Nat) : Int) = 0) := by omega
  have n1 : (((i + 1 : Nat) : Int) - 1) = (i : Int) := by omega
  have n2 : (i : Int) < ((i + 1 : Nat) : Int) := by omega
  by_cases k1 : k = 1 <;> by_cases k3 : k = 3 <;> by_cases k2 : k = 2 <;> cases x1 : (x.toList == [41]) <;> cases x2 : (x.toList == [125])
  all_goals first | (exfalso; omega) | skip
  all_goals
    go_enter Tryz.func28, Tryz.ntmps28
    go_wp2_with (go_at_call 38; refine (HC.out k2 _ (HM.out.below ((Below.refl _ _).alloc (Nat.le_refl _) _))).mono ?_; rintro e w2 ⟨rfl, rfl⟩)
  all_goals
    go_ret
    exact ⟨by simp [*], (Below.refl _ _).alloc (Nat.le_refl _) _⟩
end Go.Proofs.YthkfdhglgonmnaaGreatDoor
