/-
  The walks of the reference's sum, second part: long division of bits (the mathematics, and the rows of bools).
-/
import Derived.Test.YtdjhbepocleehaaDoorRefSum1
import Derived.Test.YtdjhbepocleehaaDoorAppendZeros
import Derived.Laws.AppendOwnNone
namespace Go.Proofs.YtdjhbepocleehaaDoor
open Go.RowKit

def leB : List Bool → Nat
  | [] => 0
  | b :: l => (if b then 1 else 0) + 2 * leB l
theorem leB_testBit (l : List Bool) (i : Nat) : (leB l).testBit i = l.getD i false := by
  induction l generalizing i with
  | nil => simp [leB]
  | cons b l ih =>
    cases i with
    | zero => cases b <;> simp [leB] <;> omega
    | succ i =>
      rw [Nat.testBit_succ]
      have : leB (b :: l) / 2 = leB l := by simp only [leB]; split <;> omega
      rw [this, ih]; rfl
theorem leB_lt (l : List Bool) : leB l < 2 ^ l.length := by
  induction l with
  | nil => simp [leB]
  | cons b l ih => simp only [leB, List.length_cons, Nat.pow_succ]; split <;> omega
theorem leB_set (l : List Bool) (i : Nat) (h : i < l.length) : leB (l.set i (!l.getD i false)) = leB l ^^^ 2 ^ i := by
  apply Nat.eq_of_testBit_eq
  intro j
  rw [Nat.testBit_xor, leB_testBit, leB_testBit, Nat.testBit_two_pow]
  by_cases e : i = j
  · subst e; simp [h, List.getD_eq_getElem?_getD]
  · rw [List.getD_eq_getElem?_getD, List.getElem?_set_ne e]; simp [e, List.getD_eq_getElem?_getD]
theorem leB_append (a b : List Bool) : leB (a ++ b) = leB a + 2 ^ a.length * leB b := by
  induction a with
  | nil => simp [leB]
  | cons x a ih => simp only [List.cons_append, leB, List.length_cons, ih, Nat.pow_succ, Nat.mul_add]; rw [Nat.mul_comm (2 ^ a.length) 2, Nat.mul_assoc]; omega
theorem leB_zeros (m : Nat) : leB (List.replicate m false) = 0 := by
  induction m with
  | zero => rfl
  | succ m ih => simp [List.replicate_succ, leB, ih]
theorem leB_bits8 (b k : Nat) : leB (bits8 b k) = b % 2 ^ k := by
  apply Nat.eq_of_testBit_eq
  intro j
  rw [leB_testBit, Nat.testBit_mod_two_pow]
  by_cases h : j < k
  · simp [bits8, h]
  · simp [bits8, h]
theorem leB_bitsB (l : List Nat) (hl : Crc.Bytes l) : leB (bitsB l) = Crc.le l := by
  induction l with
  | nil => rfl
  | cons b l ih =>
    have hb : b < 256 := hl b (List.mem_cons_self ..)
    have e : bitsB (b :: l) = bits8 b 8 ++ bitsB l := by simp [bitsB]
    rw [e, leB_append, leB_bits8, bits8_length, ih (fun x hx => hl x (List.mem_cons_of_mem _ hx)), Nat.mod_eq_of_lt hb]
    rfl

/-- The polynomial's powers, and what the first k of them turn. -/
def PL : List Nat := [0, 1, 2, 4, 5, 7, 8, 10, 11, 12, 16, 22, 23, 26, 32]
def qk (k : Nat) : Nat := (PL.take k).foldl (fun a p => a ^^^ 2 ^ (32 - p)) 0
theorem qk_end : qk 15 = 2 * Crc.P + 1 := by decide
theorem qk_succ : ∀ k, k < 15 → qk (k + 1) = qk k ^^^ 2 ^ (32 - PL.getD k 0) := by decide
theorem PL_le : ∀ k, k < 15 → PL.getD k 0 ≤ 32 := by decide
theorem mulx (k a b : Nat) : 2 ^ k * (a ^^^ b) = (2 ^ k * a) ^^^ (2 ^ k * b) := by
  apply Nat.eq_of_testBit_eq
  intro i
  simp only [Nat.testBit_xor, Nat.testBit_two_pow_mul]
  cases decide (i ≥ k) <;> simp
/-- One position more. -/
theorem div_odd (i S : Nat) (h : S % 2 = 1) : 2 ^ i * S ^^^ 2 ^ i * qk 15 = 2 ^ (i + 1) * Crc.step S := by
  rw [← mulx, qk_end, Nat.pow_succ, Nat.mul_assoc]
  congr 1
  unfold Crc.step
  rw [if_pos h]
  have e1 : S = 1 + 2 ^ 1 * (S / 2) := by omega
  have e2 := Crc.split_xor 1 1 (S / 2) (by omega)
  have e3 := Crc.split_xor 1 1 Crc.P (by omega)
  conv => lhs; rw [e1, e2, show 2 * Crc.P + 1 = 1 + 2 ^ 1 * Crc.P by omega, e3, Nat.xor_comm 1, Nat.xor_assoc, ← Nat.xor_assoc 1 1, Nat.xor_self, Nat.zero_xor, ← mulx]
theorem div_even (i S : Nat) (h : S % 2 = 0) : 2 ^ i * S = 2 ^ (i + 1) * Crc.step S := by
  rw [Nat.pow_succ, Nat.mul_assoc]
  congr 1
  unfold Crc.step
  rw [if_neg (by omega), Nat.xor_zero]; omega
theorem steps_snoc (i x : Nat) : Crc.steps (i + 1) x = Crc.step (Crc.steps i x) := by rw [Crc.steps_add]; rfl

/-- Bools at a block's head, that may be written. -/
def RowB (w : World) (g : Nat) (l : List Bool) : Prop := ∀ j : Nat, j < l.length → w.cell? ⟨g, j, none⟩ = some (.bool (l.getD j false)) ∧ w.frozen? ⟨g, j, none⟩ = false
theorem RowB.set {w : World} {b : Nat} {l : List Bool} (h : RowB w b l) (k : Nat) (v : Bool) : RowB (w.setCell ⟨b, k, none⟩ (.bool v)) b (l.set k v) := fun j hj => by
  rw [List.length_set] at hj
  obtain ⟨h1, h2⟩ := h j hj
  refine ⟨?_, by simpa using h2⟩
  by_cases e : k = j
  · subst e
    rw [World.cell?_setCell_same _ _ _ h1]
    simp [hj, List.getD_eq_getElem?_getD]
  · rw [World.cell?_setCell_other _ _ _ _ (by intro g; cases g; exact e rfl), h1]
    simp [List.getD_eq_getElem?_getD, List.getElem?_set_ne e]
theorem RowB.ofOwns {w : World} {base n : Nat} {e : TypeId} {v : Value} {l : List Bool} (h : w.ownsRow base e 1 v n (l.map Value.bool)) (h0 : 0 < n) :
    ∃ g cap, v = .slice (some ⟨g, 0, none⟩) n cap ∧ base ≤ g ∧ g < w.heap.size ∧ RowB w g l ∧ l.length = n ∧ n ≤ cap := by
  have hl : l.length = n := by simpa using h.1
  rcases h.2 with ⟨_, hn⟩ | ⟨g, cap, cur, rfl, hbg, hg, hnc, hcm, hcs, htake⟩
  · omega
  · refine ⟨g, cap, rfl, hbg, (Array.getElem?_eq_some_iff.1 hg).1, fun j hj => ⟨?_, frozen_of_row w g j cur e hg⟩, hl, hnc⟩
    rw [cell_of_row w g j cur e (0, 0) hg]
    have h2 : (cur.toList.take (n * 1))[j]? = (l.map Value.bool)[j]? := by rw [htake]
    rw [List.getElem?_take, if_pos (by omega)] at h2
    simp [hj, List.getD_eq_getElem?_getD] at h2 ⊢
    exact h2
end Go.Proofs.YtdjhbepocleehaaDoor
