/-
  Plain lemmas for the walk of ReadNum: what the bytes read so far come to.
-/
import Derived.Test.YtjdihgmngiplkaaDoorVaryD
import Derived.Laws.BitsAllLaws
namespace Go.Proofs.YtjdihgmngiplkaaDoor
open Go.RowKit

theorem val_snoc (a : List Nat) (b : Nat) : Vy.val (a ++ [b]) = Vy.val a + 128 ^ a.length * (b % 128) := by
  induction a with
  | nil => simp [Vy.val]
  | cons x a ih => simp only [List.cons_append, Vy.val, ih, List.length_cons, Nat.pow_succ]; rw [Nat.mul_add, Nat.add_assoc, Nat.mul_comm (128 ^ a.length) 128, Nat.mul_assoc]
theorem val_lt (a : List Nat) : Vy.val a < 128 ^ a.length := by
  induction a with
  | nil => simp [Vy.val]
  | cons x a ih => simp only [Vy.val, List.length_cons, Nat.pow_succ]; omega
theorem take_snoc (l : List Nat) (k : Nat) (h : k < l.length) : l.take (k + 1) = l.take k ++ [l.getD k 0] := by
  rw [List.take_succ_eq_append_getElem h, List.getD_eq_getElem?_getD, List.getElem?_eq_getElem h]; rfl
theorem val_take_succ (l : List Nat) (k : Nat) (h : k < l.length) : Vy.val (l.take (k + 1)) = Vy.val (l.take k) + 128 ^ k * (l.getD k 0 % 128) := by
  rw [take_snoc l k h, val_snoc, List.length_take, Nat.min_eq_left (by omega)]
theorem val_take_lt (l : List Nat) (k : Nat) (h : k ≤ l.length) : Vy.val (l.take k) < 128 ^ k := by
  have := val_lt (l.take k)
  rwa [List.length_take, Nat.min_eq_left h] at this
theorem val_take_64 (l : List Nat) (k : Nat) (h : k < l.length) (hk : k < 10) (h9 : k = 9 → l.getD k 0 ≤ 1) : Vy.val (l.take (k + 1)) < 2 ^ 64 := by
  by_cases e : k = 9
  · subst e
    have h1 := val_take_lt l 9 (by omega)
    have h2 := h9 rfl
    rw [val_take_succ l 9 h, Nat.mod_eq_of_lt (by omega)]
    have : 128 ^ 9 * l.getD 9 0 ≤ 128 ^ 9 * 1 := Nat.mul_le_mul_left _ h2
    have e2 : (128 : Nat) ^ 9 = 2 ^ 63 := by decide
    omega
  · have h1 := val_take_lt l (k + 1) (by omega)
    exact Nat.lt_of_lt_of_le h1 (Nat.le_trans (Nat.pow_le_pow_right (by decide) (show k + 1 ≤ 9 by omega)) (by decide))
theorem RN.ok {l : List Nat} {at_ rn rnext re k : Nat} (hR : RN l at_ rn rnext re) (hl : Crc.Bytes l) (hB : Big l k) (hk : k < l.length) (h10 : k < 10) (hs : l.getD k 0 < 128) (hz : k = 0 ∨ l.getD k 0 ≠ 0) (h9 : k = 9 → l.getD k 0 ≤ 1) :
    rn = Vy.val (l.take (k + 1)) ∧ rnext = at_ + (k + 1) ∧ re = 0 := by
  have hlen : (l.take (k + 1)).length = k + 1 := by rw [List.length_take]; omega
  have hget : ∀ i, i ≤ k → (l.take (k + 1)).getD i 0 = l.getD i 0 := fun i hi => by simp [List.getD_eq_getElem?_getD, show i < k + 1 by omega]
  have he : Vy.enc (Vy.val (l.take (k + 1))) = l.take (k + 1) := by
    apply Vy.enc_val
    · intro h; rw [h] at hlen; cases hlen
    · intro i hi
      rw [hlen] at hi
      rw [hget i (by omega)]
      refine ⟨hB i (by omega) (by omega), ?_⟩
      rw [List.getD_eq_getElem?_getD, List.getElem?_eq_getElem (by omega)]
      exact hl _ (List.getElem_mem _)
    · rw [hlen, Nat.add_sub_cancel, hget k (Nat.le_refl _)]; exact hs
    · rw [hlen, Nat.add_sub_cancel, hget k (Nat.le_refl _)]; omega
  have h64 := val_take_64 l k hk h10 h9
  rcases RN.found hR hB hs rfl with ⟨h1, h2, h3, h4⟩ | ⟨h1, _⟩
  · rw [Nat.mod_eq_of_lt h64] at h2 h3
    exact ⟨h2, by rw [h3, he, hlen], h4⟩
  · rw [Nat.mod_eq_of_lt h64] at h1; exact absurd he h1
theorem RN.bad {l : List Nat} {at_ rn rnext re k : Nat} (hR : RN l at_ rn rnext re) (hB : Big l k) (hk : k < l.length) (hs : l.getD k 0 < 128) (hz : (k = 9 ∧ 1 < l.getD k 0) ∨ (l.getD k 0 = 0 ∧ 0 < k)) :
    rn = 0 ∧ rnext = 0 ∧ re = 3 := by
  have hlen : (l.take (k + 1)).length = k + 1 := by rw [List.length_take]; omega
  rcases RN.found hR hB hs rfl with ⟨h1, _⟩ | ⟨_, h2, h3, h4⟩
  · exfalso
    have hv := congrArg Vy.val h1
    rw [Vy.val_enc, val_take_succ l k hk] at hv
    have hlt : (Vy.val (l.take k) + 128 ^ k * (l.getD k 0 % 128)) % 2 ^ 64 < 2 ^ 64 := Nat.mod_lt _ (by decide)
    rcases hz with ⟨rfl, h2⟩ | ⟨h2, h3⟩
    · rw [Nat.mod_eq_of_lt hs] at hv hlt
      have : 128 ^ 9 * 2 ≤ 128 ^ 9 * l.getD 9 0 := Nat.mul_le_mul_left _ h2
      have e2 : (128 : Nat) ^ 9 * 2 = 2 ^ 64 := by decide
      omega
    · obtain ⟨j, rfl⟩ : ∃ j, k = j + 1 := ⟨k - 1, by omega⟩
      rw [h2, Nat.zero_mod, Nat.mul_zero, Nat.add_zero] at hv
      have h5 := val_take_lt l (j + 1) (by omega)
      rw [val_take_succ l (j + 1) hk, h2, Nat.zero_mod, Nat.mul_zero, Nat.add_zero] at h1
      have h6 := Vy.enc_len (Vy.val (l.take (j + 1)) % 2 ^ 64) j (Nat.lt_of_le_of_lt (Nat.mod_le _ _) h5)
      rw [h1, hlen] at h6
      omega
  · exact ⟨h2, h3, h4⟩
/-- One byte more, bit by bit. -/
theorem acc_or (l : List Nat) (k : Nat) (h : k < l.length) : Vy.val (l.take k) ||| (128 ^ k * (l.getD k 0 % 128)) = Vy.val (l.take (k + 1)) := by
  have h1 := val_take_lt l k (by omega)
  rw [val_take_succ l k h]
  have e : (128 : Nat) ^ k = 2 ^ (7 * k) := by rw [Nat.pow_mul]
  rw [e] at h1 ⊢
  rw [Nat.add_comm, Nat.or_comm]
  exact (Nat.two_pow_add_eq_or_of_lt h1 _).symm
theorem shl_lt (c k : Nat) (hc : c < 256) (hk : k < 10) (h9 : k = 9 → c ≤ 1) : 128 ^ k * (c % 128) < 2 ^ 64 := by
  by_cases e : k = 9
  · subst e
    have h2 := h9 rfl
    have : 128 ^ 9 * (c % 128) ≤ 128 ^ 9 * 1 := Nat.mul_le_mul_left _ (by omega)
    have e2 : (128 : Nat) ^ 9 = 2 ^ 63 := by decide
    omega
  · have h1 : 128 ^ k ≤ 128 ^ 8 := Nat.pow_le_pow_right (by decide) (by omega)
    have h2 : 128 ^ k * (c % 128) ≤ 128 ^ 8 * 128 := Nat.mul_le_mul h1 (by omega)
    have e2 : (128 : Nat) ^ 8 * 128 = 2 ^ 63 := by decide
    omega
theorem acc_u64 (l : List Nat) (k c : Nat) (h : k < l.length) (hg : l.getD k 0 = c) (hc : c < 256) (hk : k < 10) (h9 : k = 9 → c ≤ 1) :
    bits .or .u64 ((Vy.val (l.take k) : Nat) : Int) (IntKind.u64.wrap ((c : Int) % 128 * 2 ^ (7 * k))) = ((Vy.val (l.take (k + 1)) : Nat) : Int) := by
  have h1 := shl_lt c k hc hk h9
  have e : ((c : Int) % 128 * 2 ^ (7 * k)) = ((128 ^ k * (c % 128) : Nat) : Int) := by
    rw [show (128 : Nat) ^ k = 2 ^ (7 * k) by rw [Nat.pow_mul], Int.mul_comm]
    push_cast
    rfl
  have hv := val_take_64 l k h hk (by rw [hg]; exact h9)
  have hv0 : Vy.val (l.take k) < 2 ^ 64 := by rw [val_take_succ l k h] at hv; omega
  rw [e, IntKind.wrap_u64, show (((128 ^ k * (c % 128) : Nat) : Int) % 18446744073709551616) = ((128 ^ k * (c % 128) : Nat) : Int) by omega, u64_or_nat _ _ (by omega) (by omega), ← acc_or l k h, hg]
end Go.Proofs.YtjdihgmngiplkaaDoor
