/-
  The plain mathematics of chapter 2: numbers as bytes, seven bits a byte. Nothing of the program is named here.
-/
namespace Go.Proofs.YtlfcfaceeloedaaDoor
namespace Vy

/-- A number's bytes. -/
def enc (n : Nat) : List Nat := if n < 128 then [n] else (n % 128 + 128) :: enc (n / 128)
termination_by n
decreasing_by omega

theorem enc_small {n : Nat} (h : n < 128) : enc n = [n] := by rw [enc, if_pos h]
theorem enc_big {n : Nat} (h : ¬ n < 128) : enc n = (n % 128 + 128) :: enc (n / 128) := by rw [enc, if_neg h]
theorem enc_ne (n : Nat) : enc n ≠ [] := by rw [enc]; split <;> simp
theorem enc_bytes (n : Nat) : ∀ b ∈ enc n, b < 256 := by
  induction n using Nat.strongRecOn with
  | ind n ih =>
    by_cases h : n < 128
    · rw [enc_small h]; intro b hb; rw [List.mem_singleton.1 hb]; omega
    · rw [enc_big h]; intro b hb
      rcases List.mem_cons.1 hb with rfl | hb
      · omega
      · exact ih (n / 128) (by omega) b hb
theorem enc_len (n : Nat) : ∀ k, n < 128 ^ (k + 1) → (enc n).length ≤ k + 1 := by
  intro k
  induction k generalizing n with
  | zero => intro h; rw [enc_small (by simpa using h)]; simp
  | succ k ih =>
    intro h
    by_cases h1 : n < 128
    · rw [enc_small h1]; simp
    · rw [enc_big h1, List.length_cons]
      have : n / 128 < 128 ^ (k + 1) := by
        rw [Nat.pow_succ] at h
        exact Nat.div_lt_of_lt_mul (by rw [Nat.mul_comm]; exact h)
      have := ih (n / 128) this
      omega
theorem enc_len10 (n : Nat) (h : n < 2 ^ 64) : (enc n).length ≤ 10 := enc_len n 9 (Nat.lt_of_lt_of_le h (by decide))
theorem enc_len_pos (n : Nat) : 0 < (enc n).length := List.length_pos_iff.2 (enc_ne n)

/-- What bytes stand for. -/
def val : List Nat → Nat
  | [] => 0
  | b :: l => b % 128 + 128 * val l
theorem val_enc (n : Nat) : val (enc n) = n := by
  induction n using Nat.strongRecOn with
  | ind n ih =>
    by_cases h : n < 128
    · rw [enc_small h]; simp [val]; omega
    · rw [enc_big h, val, ih (n / 128) (by omega)]; omega
theorem enc_inj {a b : Nat} (h : enc a = enc b) : a = b := by rw [← val_enc a, h, val_enc]

/-- The first byte below 128 is the last one. -/
theorem enc_get (n : Nat) : ∀ i, i < (enc n).length → ((enc n).getD i 0 < 128 ↔ i + 1 = (enc n).length) := by
  induction n using Nat.strongRecOn with
  | ind n ih =>
    intro i hi
    by_cases h : n < 128
    · rw [enc_small h] at hi ⊢
      have : i = 0 := by simpa using hi
      subst this; simp; exact h
    · rw [enc_big h] at hi ⊢
      cases i with
      | zero =>
        have := enc_len_pos (n / 128)
        show (n % 128 + 128 < 128 ↔ 0 + 1 = (enc (n / 128)).length + 1)
        omega
      | succ i =>
        have := ih (n / 128) (by omega) i (by simpa using hi)
        simpa using this
/-- None begins another one. -/
theorem enc_prefix {a b : Nat} {l : List Nat} (ha : enc a <+: l) (hb : enc b <+: l) : a = b := by
  obtain ⟨r, rfl⟩ := ha
  have key : ∀ (a b : Nat) (r : List Nat), enc b <+: enc a ++ r → a = b := by
    intro a
    induction a using Nat.strongRecOn with
    | ind a ih =>
      intro b r hp
      by_cases h : a < 128
      · rw [enc_small h] at hp
        by_cases h2 : b < 128
        · rw [enc_small h2] at hp
          have := List.cons_prefix_cons.1 hp
          omega
        · rw [enc_big h2] at hp
          have := (List.cons_prefix_cons.1 hp).1
          omega
      · rw [enc_big h] at hp
        by_cases h2 : b < 128
        · rw [enc_small h2] at hp
          have := (List.cons_prefix_cons.1 hp).1
          omega
        · rw [enc_big h2, List.cons_append] at hp
          have h3 := List.cons_prefix_cons.1 hp
          have := ih (a / 128) (by omega) (b / 128) r h3.2
          omega
  exact key a b r hb

/-- Bytes of which the last one alone is below 128, and that one 0 only if it is alone, are a number's. -/
theorem enc_val (l : List Nat) (h0 : l ≠ []) (hb : ∀ i, i + 1 < l.length → 128 ≤ l.getD i 0 ∧ l.getD i 0 < 256) (hl : l.getD (l.length - 1) 0 < 128) (hz : l.length = 1 ∨ l.getD (l.length - 1) 0 ≠ 0) : enc (val l) = l := by
  induction l with
  | nil => exact absurd rfl h0
  | cons b l ih =>
    cases l with
    | nil =>
      simp at hl
      simp only [val]
      rw [Nat.mul_zero, Nat.add_zero, Nat.mod_eq_of_lt hl, enc_small hl]
    | cons c l =>
      have e := ih (by simp) (fun i hi => by have := hb (i + 1) (by simpa using hi); simpa using this) (by simpa using hl) (by
        right
        rcases hz with hz | hz
        · simp at hz
        · simpa using hz)
      have h1 := hb 0 (by simp)
      simp at h1
      have hpos : 0 < val (c :: l) := by
        rcases Nat.eq_zero_or_pos (val (c :: l)) with hv | hv
        · rw [hv, enc_small (by omega)] at e
          have e1 : l = [] := by simpa using (List.cons.inj e).2.symm
          have e2 : c = 0 := (List.cons.inj e).1.symm
          subst e1; subst e2
          rcases hz with hz | hz
          · simp at hz
          · simp at hz
        · exact hv
      rw [val]
      rw [enc_big (by omega), show (b % 128 + 128 * val (c :: l)) / 128 = val (c :: l) by omega, e]
      congr 1
      omega
end Vy
end Go.Proofs.YtlfcfaceeloedaaDoor
