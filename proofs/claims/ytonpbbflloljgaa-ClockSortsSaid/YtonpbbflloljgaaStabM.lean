/-
  The mathematics of a stable sort by merging in place: rows as functions of the place; exchange, insertion, rotation, merge.
-/
import Derived.Test.YtonpbbflloljgaaRows
namespace Go.Proofs.Ytonpbbflloljgaa
namespace St

/-- x comes ahead of y: by its key, and, of one key, by itself. -/
def R (key : Nat → Int) (x y : Nat) : Prop := key x < key y ∨ (key x = key y ∧ x < y)
theorem R.trans {key : Nat → Int} {x y z : Nat} (h : R key x y) (g : R key y z) : R key x z := by unfold R at *; omega
theorem R.lt {key : Nat → Int} {x y : Nat} (h : key x < key y) : R key x y := Or.inl h
theorem R.of_not {key : Nat → Int} {x y : Nat} (h : ¬ key x < key y) (hid : y < x) : R key y x := by unfold R; omega
theorem R.asymm {key : Nat → Int} {x y : Nat} (h : R key x y) : ¬ R key y x := by unfold R at *; omega

def Sorted (key : Nat → Int) (a b : Nat) (f : Nat → Nat) : Prop := ∀ i j, a ≤ i → i < j → j < b → R key (f i) (f j)
def Inc (a b : Nat) (f g : Nat → Nat) : Prop := ∀ k, a ≤ k → k < b → ∃ i, a ≤ i ∧ i < b ∧ g k = f i
def Out (a b : Nat) (f g : Nat → Nat) : Prop := ∀ k, (k < a ∨ b ≤ k) → g k = f k
/-- g is f with its part from a to b in another order. -/
structure Did (a b : Nat) (f g : Nat → Nat) : Prop where
  to : Inc a b f g
  back : Inc a b g f
  out : Out a b f g
theorem Did.refl (a b : Nat) (f : Nat → Nat) : Did a b f f := ⟨fun k h1 h2 => ⟨k, h1, h2, rfl⟩, fun k h1 h2 => ⟨k, h1, h2, rfl⟩, fun _ _ => rfl⟩
theorem Inc.trans {a b : Nat} {f g h : Nat → Nat} (p : Inc a b f g) (q : Inc a b g h) : Inc a b f h := fun k h1 h2 => by
  obtain ⟨i, i1, i2, e⟩ := q k h1 h2
  obtain ⟨j, j1, j2, e'⟩ := p i i1 i2
  exact ⟨j, j1, j2, e.trans e'⟩
theorem Did.trans {a b : Nat} {f g h : Nat → Nat} (p : Did a b f g) (q : Did a b g h) : Did a b f h :=
  ⟨p.to.trans q.to, q.back.trans p.back, fun k hk => (q.out k hk).trans (p.out k hk)⟩
theorem Did.wide {a b a' b' : Nat} {f g : Nat → Nat} (p : Did a b f g) (ha : a' ≤ a) (hb : b ≤ b') : Did a' b' f g := by
  refine ⟨fun k h1 h2 => ?_, fun k h1 h2 => ?_, fun k hk => p.out k (by omega)⟩
  · by_cases hk : a ≤ k ∧ k < b
    · obtain ⟨i, i1, i2, e⟩ := p.to k hk.1 hk.2
      exact ⟨i, by omega, by omega, e⟩
    · exact ⟨k, h1, h2, p.out k (by omega)⟩
  · by_cases hk : a ≤ k ∧ k < b
    · obtain ⟨i, i1, i2, e⟩ := p.back k hk.1 hk.2
      exact ⟨i, by omega, by omega, e⟩
    · exact ⟨k, h1, h2, (p.out k (by omega)).symm⟩

/-- The element at i laid at j, those between moved up. -/
def ins (f : Nat → Nat) (i j k : Nat) : Nat := if k < j then f k else if k = j then f i else if k ≤ i then f (k - 1) else f k
/-- The element at a laid at c, those between moved down. -/
def rol (f : Nat → Nat) (a c k : Nat) : Nat := if k < a then f k else if k < c then f (k + 1) else if k = c then f a else f k
def swp (f : Nat → Nat) (i j k : Nat) : Nat := if k = i then f j else if k = j then f i else f k
theorem ins_self (f : Nat → Nat) (i : Nat) : ins f i i = f := by
  funext k
  unfold ins
  by_cases h1 : k < i
  · rw [if_pos h1]
  · rw [if_neg h1]
    by_cases h2 : k = i
    · rw [if_pos h2, h2]
    · rw [if_neg h2, if_neg (by omega)]
theorem ins_swp (f : Nat → Nat) (i j : Nat) (h : j < i) : swp (ins f i (j + 1)) (j + 1) j = ins f i j := by
  funext k
  simp only [swp, ins]
  (repeat' split) <;> first | rfl | (exact congrArg f (by omega)) | (exfalso; omega) | (exact absurd trivial ‹¬True›)
theorem rol_self (f : Nat → Nat) (a : Nat) : rol f a a = f := by
  funext k
  unfold rol
  by_cases h1 : k < a
  · rw [if_pos h1]
  · rw [if_neg h1, if_neg h1]
    by_cases h2 : k = a
    · rw [if_pos h2, h2]
    · rw [if_neg h2]
theorem rol_swp (f : Nat → Nat) (a c : Nat) (h : a ≤ c) : swp (rol f a c) c (c + 1) = rol f a (c + 1) := by
  funext k
  simp only [swp, rol]
  (repeat' split) <;> first | rfl | (exact congrArg f (by omega)) | (exfalso; omega) | (exact absurd trivial ‹¬True›)
theorem ins_did (f : Nat → Nat) (i j a b : Nat) (ha : a ≤ j) (hj : j ≤ i) (hb : i < b) : Did a b f (ins f i j) := by
  refine ⟨fun k h1 h2 => ?_, fun k h1 h2 => ?_, fun k hk => ?_⟩
  · unfold ins
    by_cases p1 : k < j
    · rw [if_pos p1]; exact ⟨k, h1, h2, rfl⟩
    · rw [if_neg p1]
      by_cases p2 : k = j
      · rw [if_pos p2]; exact ⟨i, by omega, hb, rfl⟩
      · rw [if_neg p2]
        by_cases p3 : k ≤ i
        · rw [if_pos p3]; exact ⟨k - 1, by omega, by omega, rfl⟩
        · rw [if_neg p3]; exact ⟨k, h1, h2, rfl⟩
  · by_cases p1 : k < j
    · exact ⟨k, h1, h2, by unfold ins; rw [if_pos p1]⟩
    · by_cases p2 : k < i
      · exact ⟨k + 1, by omega, by omega, by unfold ins; rw [if_neg (by omega), if_neg (by omega), if_pos (by omega)]; rfl⟩
      · by_cases p3 : k = i
        · exact ⟨j, by omega, by omega, by unfold ins; rw [if_neg (by omega), if_pos rfl, p3]⟩
        · exact ⟨k, h1, h2, by unfold ins; rw [if_neg (by omega), if_neg (by omega), if_neg (by omega)]⟩
  · unfold ins
    by_cases p1 : k < j
    · rw [if_pos p1]
    · rw [if_neg p1, if_neg (by omega), if_neg (by omega)]
theorem rol_did (f : Nat → Nat) (a c b' b : Nat) (ha : b' ≤ a) (hc : a ≤ c) (hb : c < b) : Did b' b f (rol f a c) := by
  refine ⟨fun k h1 h2 => ?_, fun k h1 h2 => ?_, fun k hk => ?_⟩
  · unfold rol
    by_cases p1 : k < a
    · rw [if_pos p1]; exact ⟨k, h1, h2, rfl⟩
    · rw [if_neg p1]
      by_cases p2 : k < c
      · rw [if_pos p2]; exact ⟨k + 1, by omega, by omega, rfl⟩
      · rw [if_neg p2]
        by_cases p3 : k = c
        · rw [if_pos p3]; exact ⟨a, by omega, by omega, rfl⟩
        · rw [if_neg p3]; exact ⟨k, h1, h2, rfl⟩
  · by_cases p1 : k < a
    · exact ⟨k, h1, h2, by unfold rol; rw [if_pos p1]⟩
    · by_cases p2 : k = a
      · exact ⟨c, by omega, by omega, by unfold rol; rw [if_neg (by omega), if_neg (by omega), if_pos rfl, p2]⟩
      · by_cases p3 : k ≤ c
        · exact ⟨k - 1, by omega, by omega, by unfold rol; rw [if_neg (by omega), if_pos (by omega), show k - 1 + 1 = k by omega]⟩
        · exact ⟨k, h1, h2, by unfold rol; rw [if_neg p1, if_neg (by omega), if_neg (by omega)]⟩
  · unfold rol
    by_cases p1 : k < a
    · rw [if_pos p1]
    · rw [if_neg p1, if_neg (by omega), if_neg (by omega)]
/-- An element put where it belongs: ahead of what is greater, behind what is less. -/
theorem ins_sorted {key : Nat → Int} {f : Nat → Nat} {a i j : Nat} (h : Sorted key a i f) (ha : a ≤ j) (hj : j ≤ i) (lo : ∀ k, a ≤ k → k < j → R key (f k) (f i)) (hi : ∀ k, j ≤ k → k < i → R key (f i) (f k)) : Sorted key a (i + 1) (ins f i j) := by
  intro p q h1 h2 h3
  unfold ins
  by_cases p1 : p < j
  · rw [if_pos p1]
    by_cases q1 : q < j
    · rw [if_pos q1]; exact h p q h1 h2 (by omega)
    · rw [if_neg q1]
      by_cases q2 : q = j
      · rw [if_pos q2]; exact lo p h1 p1
      · rw [if_neg q2, if_pos (by omega)]; exact h p (q - 1) h1 (by omega) (by omega)
  · rw [if_neg p1, if_neg (show ¬ q < j by omega), if_neg (show ¬ q = j by omega), if_pos (show q ≤ i by omega)]
    by_cases p2 : p = j
    · rw [if_pos p2]; exact hi (q - 1) (by omega) (by omega)
    · rw [if_neg p2, if_pos (by omega)]; exact h (p - 1) (q - 1) (by omega) (by omega) (by omega)
/-- One element ahead of a sorted row, put where it belongs (i: the first that it does not come behind). -/
theorem rol_sorted {key : Nat → Int} {f : Nat → Nat} {a i b : Nat} (h : Sorted key (a + 1) b f) (ha : a + 1 ≤ i) (hi : i ≤ b) (lo : ∀ k, a + 1 ≤ k → k < i → R key (f k) (f a)) (up : ∀ k, i ≤ k → k < b → R key (f a) (f k)) : Sorted key a b (rol f a (i - 1)) := by
  intro p q h1 h2 h3
  unfold rol
  rw [if_neg (show ¬ p < a by omega), if_neg (show ¬ q < a by omega)]
  by_cases p1 : p < i - 1
  · rw [if_pos p1]
    by_cases q1 : q < i - 1
    · rw [if_pos q1]; exact h (p + 1) (q + 1) (by omega) (by omega) (by omega)
    · rw [if_neg q1]
      by_cases q2 : q = i - 1
      · rw [if_pos q2]; exact lo (p + 1) (by omega) (by omega)
      · rw [if_neg q2]; exact h (p + 1) q (by omega) (by omega) h3
  · rw [if_neg p1, if_neg (show ¬ q < i - 1 by omega), if_neg (show ¬ q = i - 1 by omega)]
    by_cases p2 : p = i - 1
    · rw [if_pos p2]; exact up q (by omega) h3
    · rw [if_neg p2]; exact h p q (by omega) h2 h3

/-- n elements from a on and as many from b on, exchanged. -/
def swr (f : Nat → Nat) (a b n k : Nat) : Nat := if a ≤ k ∧ k < a + n then f (k - a + b) else if b ≤ k ∧ k < b + n then f (k - b + a) else f k
theorem swr_0 (f : Nat → Nat) (a b : Nat) : swr f a b 0 = f := by
  funext k
  simp only [swr]
  (repeat' split) <;> first | rfl | (exact congrArg f (by omega)) | (exfalso; omega) | (exact absurd trivial ‹¬True›)
theorem swr_swp (f : Nat → Nat) (a b n : Nat) (h : a + (n + 1) ≤ b) : swp (swr f a b n) (a + n) (b + n) = swr f a b (n + 1) := by
  funext k
  simp only [swp, swr]
  (repeat' split) <;> first | rfl | (exact congrArg f (by omega)) | (exfalso; omega) | (exact absurd trivial ‹¬True›)
/-- The part from a to m and that from m to b, the other way round. -/
def rot (f : Nat → Nat) (a m b k : Nat) : Nat := if a ≤ k ∧ k < a + (b - m) then f (k - a + m) else if a + (b - m) ≤ k ∧ k < b then f (k - (b - m)) else f k
theorem rot_left (f : Nat → Nat) (m i j : Nat) (hi : i ≤ m) (h : j < i) : rot (swr f (m - i) m j) (m - (i - j)) m (m + j) = rot f (m - i) m (m + j) := by
  funext k
  simp only [rot, swr]
  (repeat' split) <;> first | rfl | (exact congrArg f (by omega)) | (exfalso; omega) | (exact absurd trivial ‹¬True›)
theorem rot_right (f : Nat → Nat) (m i j : Nat) (hi : i ≤ m) (h : i < j) : rot (swr f (m - i) (m + j - i) i) (m - i) m (m + (j - i)) = rot f (m - i) m (m + j) := by
  funext k
  simp only [rot, swr]
  (repeat' split) <;> first | rfl | (exact congrArg f (by omega)) | (exfalso; omega) | (exact absurd trivial ‹¬True›)
theorem rot_same (f : Nat → Nat) (m i : Nat) (hi : i ≤ m) : swr f (m - i) m i = rot f (m - i) m (m + i) := by
  funext k
  simp only [rot, swr]
  (repeat' split) <;> first | rfl | (exact congrArg f (by omega)) | (exfalso; omega) | (exact absurd trivial ‹¬True›)
theorem rot_did (f : Nat → Nat) (a m b : Nat) (h1 : a ≤ m) (h2 : m ≤ b) : Did a b f (rot f a m b) := by
  refine ⟨fun k k1 k2 => ?_, fun k k1 k2 => ?_, fun k hk => ?_⟩
  · unfold rot
    by_cases p1 : a ≤ k ∧ k < a + (b - m)
    · rw [if_pos p1]; exact ⟨k - a + m, by omega, by omega, rfl⟩
    · rw [if_neg p1, if_pos (by omega)]; exact ⟨k - (b - m), by omega, by omega, rfl⟩
  · by_cases p1 : k < m
    · exact ⟨k + (b - m), by omega, by omega, by unfold rot; rw [if_neg (by omega), if_pos (by omega), Nat.add_sub_cancel]⟩
    · exact ⟨k - m + a, by omega, by omega, by unfold rot; rw [if_pos (by omega)]; congr 1; omega⟩
  · unfold rot; rw [if_neg (by omega), if_neg (by omega)]
end St
end Go.Proofs.Ytonpbbflloljgaa
