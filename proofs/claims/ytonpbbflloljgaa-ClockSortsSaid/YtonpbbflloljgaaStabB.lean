/-
  Merging in place, by induction; the mathematics of blocks.
-/
import Derived.Test.YtonpbbflloljgaaStabG
namespace Go.Proofs.Ytonpbbflloljgaa
open Go.RowKit

theorem symMerge_any (bl N cap bb lb lo c n : Nat) (key : Nat → Int) (hN : N ≤ 200) : ∀ (z a m b : Nat) (f : Nat → Nat) (w : World), b - a ≤ z → a < m → m < b → b ≤ N → Dat bl N bb lb lo c n key f w → Two2 key a m b f →
    Calls Try.prog 37 #[.slice (some ⟨bl, 0, none⟩) N cap, .int .i64 (a : Int), .int .i64 (m : Int), .int .i64 (b : Int), cmpF bb] w (MadeS bl N bb lb lo c n key a b f w)
  | 0, a, m, b, _, _, hz, h1, h2, _, _, _ => absurd hz (by omega)
  | z + 1, a, m, b, f, w, hz, h1, h2, hb, hd, ht => by
    by_cases c1 : m = a + 1
    · subst c1; exact symMerge_left bl N cap bb lb lo c n key f a b w hN hd h2 hb ht
    by_cases c2 : b = m + 1
    · subst c2; exact symMerge_right bl N cap bb lb lo c n key f a m w hN hd (by omega) hb ht
    have ih : ∀ (a' m' b' : Nat) (g : Nat → Nat) (W : World), a ≤ a' → b' ≤ b → b' - a' < b - a → a' < m' → m' < b' → Dat bl N bb lb lo c n key g W → Two2 key a' m' b' g →
      Calls Try.prog 37 #[.slice (some ⟨bl, 0, none⟩) N cap, .int .i64 (a' : Int), .int .i64 (m' : Int), .int .i64 (b' : Int), cmpF bb] W (MadeS bl N bb lb lo c n key a' b' g W) :=
      fun a' m' b' g W _ q2 q3 q4 q5 q6 q7 => symMerge_any bl N cap bb lb lo c n key hN z a' m' b' g W (by omega) q4 q5 (by omega) q6 q7
    by_cases c3 : (a + b) / 2 < m
    · exact symMerge_big bl N cap bb lb lo c n key f a m b _ w hN hd (by omega) (by omega) hb ht rfl c3 ih
    · exact symMerge_small bl N cap bb lb lo c n key f a m b _ w hN hd (by omega) (by omega) hb ht rfl (by omega) ih

namespace St
/-- Each block of B of g holds the numbers of that block of f. -/
def BI (B N : Nat) (f g : Nat → Nat) : Prop := ∀ r, Inc (r * B) (min (r * B + B) N) f g ∧ Inc (r * B) (min (r * B + B) N) g f
/-- Each block of B is in order. -/
def BS (key : Nat → Int) (B N : Nat) (g : Nat → Nat) : Prop := ∀ r, Sorted key (r * B) (min (r * B + B) N) g
theorem BI.refl (B N : Nat) (f : Nat → Nat) : BI B N f f := fun _ => ⟨fun k h1 h2 => ⟨k, h1, h2, rfl⟩, fun k h1 h2 => ⟨k, h1, h2, rfl⟩⟩
theorem block_lt {B r r' : Nat} (h : r < r') : r * B + B ≤ r' * B := by
  have := Nat.mul_le_mul_right B (show r + 1 ≤ r' from h)
  rw [Nat.add_mul, Nat.one_mul] at this; exact this
theorem block_apart {B N r r' k : Nat} (h : r ≠ r') (h1 : r' * B ≤ k) (h2 : k < min (r' * B + B) N) : k < r * B ∨ min (r * B + B) N ≤ k := by
  rcases Nat.lt_or_gt_of_ne h with e | e
  · have := block_lt (B := B) e; omega
  · have := block_lt (B := B) e; omega
theorem BI.did {B N r : Nat} {f g h : Nat → Nat} (p : BI B N f g) (d : Did (r * B) (min (r * B + B) N) g h) : BI B N f h := fun r' => by
  by_cases e : r = r'
  · subst e; exact ⟨(p r).1.trans d.to, d.back.trans (p r).2⟩
  · refine ⟨fun k h1 h2 => ?_, fun k h1 h2 => ?_⟩
    · obtain ⟨i, i1, i2, ei⟩ := (p r').1 k h1 h2
      exact ⟨i, i1, i2, (d.out k (block_apart e h1 h2)).trans ei⟩
    · obtain ⟨i, i1, i2, ei⟩ := (p r').2 k h1 h2
      exact ⟨i, i1, i2, ei.trans (d.out i (block_apart e i1 i2)).symm⟩
theorem two_mul_block (r B : Nat) : 2 * r * B = r * (2 * B) := by rw [Nat.mul_comm 2 r, Nat.mul_assoc]
theorem two_mul_block' (r B : Nat) : (2 * r + 1) * B = r * (2 * B) + B := by rw [Nat.add_mul, Nat.one_mul, two_mul_block]
theorem BI.double {B N : Nat} {f g : Nat → Nat} (p : BI B N f g) : BI (2 * B) N f g := fun r => by
  have p1 := p (2 * r)
  have p2 := p (2 * r + 1)
  rw [two_mul_block] at p1
  rw [two_mul_block'] at p2
  generalize r * (2 * B) = a at *
  refine ⟨fun k h1 h2 => ?_, fun k h1 h2 => ?_⟩
  · by_cases e : k < a + B
    · obtain ⟨i, i1, i2, ei⟩ := p1.1 k h1 (by omega)
      exact ⟨i, i1, by omega, ei⟩
    · obtain ⟨i, i1, i2, ei⟩ := p2.1 k (by omega) (by omega)
      exact ⟨i, by omega, by omega, ei⟩
  · by_cases e : k < a + B
    · obtain ⟨i, i1, i2, ei⟩ := p1.2 k h1 (by omega)
      exact ⟨i, i1, by omega, ei⟩
    · obtain ⟨i, i1, i2, ei⟩ := p2.2 k (by omega) (by omega)
      exact ⟨i, by omega, by omega, ei⟩
/-- Two blocks side by side may be merged. -/
theorem two_blocks {key : Nat → Int} {B N r b : Nat} {f g h : Nat → Nat} (rise : ∀ i j, i < j → j < N → f i < f j) (p : BI B N f g) (s : BS key B N g) (hb : b = min (r * (2 * B) + 2 * B) N) (same : ∀ k, r * (2 * B) ≤ k → h k = g k) (hm : r * (2 * B) + B ≤ N) :
    Two2 key (r * (2 * B)) (r * (2 * B) + B) b h := by
  have p1 := p (2 * r)
  have p2 := p (2 * r + 1)
  have s1 := s (2 * r)
  have s2 := s (2 * r + 1)
  rw [two_mul_block] at p1 s1
  rw [two_mul_block'] at p2 s2
  generalize r * (2 * B) = a at *
  refine ⟨fun i j h1 h2 h3 => ?_, fun i j h1 h2 h3 => ?_, fun i j h1 h2 h3 h4 => ?_⟩
  · rw [same i h1, same j (by omega)]; exact s1 i j h1 h2 (by omega)
  · rw [same i (by omega), same j (by omega)]; exact s2 i j h1 h2 (by omega)
  · rw [same i h1, same j (by omega)]
    obtain ⟨i', i1, i2, ei⟩ := p1.1 i h1 (by omega)
    obtain ⟨j', j1, j2, ej⟩ := p2.1 j h3 (by omega)
    rw [ei, ej]; exact rise i' j' (by omega) (by omega)
end St
end Go.Proofs.Ytonpbbflloljgaa
