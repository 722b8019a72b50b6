/-
  Mathematics for the reference's Lex: numbers by their digits, in order; what may end a line.
-/
import Derived.Test.YthkfdhglgonmnaaGreatDoorRefLex4
namespace Go.Proofs.YthkfdhglgonmnaaGreatDoor
open Go.RowKit Lx

theorem numV_snoc (d : B) (b : UInt8) : numV (d ++ [b]) = numV d * 10 + (b.toNat - 48) := by
  unfold numV; rw [List.foldl_append]; rfl
theorem foldl_num (d : B) : ∀ a : Nat, d.foldl (fun n b => n * 10 + (b.toNat - 48)) a = a * 10 ^ d.length + numV d := by
  induction d with
  | nil => intro a; simp [numV]
  | cons b r ih =>
    intro a
    unfold numV
    simp only [List.foldl_cons, List.length_cons]
    rw [ih, ih (0 * 10 + _)]
    rw [Nat.pow_succ, Nat.add_mul, Nat.mul_assoc a 10, Nat.mul_comm 10 (10 ^ r.length), Nat.zero_mul, Nat.zero_add]
    omega
theorem numV_cons (b : UInt8) (r : B) : numV (b :: r) = (b.toNat - 48) * 10 ^ r.length + numV r := by
  have h := foldl_num r (0 * 10 + (b.toNat - 48))
  have e : numV (b :: r) = r.foldl (fun n b => n * 10 + (b.toNat - 48)) (0 * 10 + (b.toNat - 48)) := rfl
  rw [e, h, Nat.zero_mul, Nat.zero_add]
theorem numV_lt : ∀ (d : B), (∀ b ∈ d, isDg b = true) → numV d < 10 ^ d.length := by
  intro d
  induction d with
  | nil => intro _; decide
  | cons b r ih =>
    intro h
    have h1 := ih (fun c hc => h c (List.mem_cons_of_mem _ hc))
    have hb := h b (List.mem_cons_self ..)
    have hb9 : b.toNat - 48 ≤ 9 := by simp [isDg] at hb; omega
    rw [numV_cons, List.length_cons, Nat.pow_succ]
    have := Nat.mul_le_mul_right (10 ^ r.length) hb9
    omega
/-- Of numbers of as many digits the one is above the other just if its text is. -/
theorem num_order : ∀ (d e : B), (∀ b ∈ d, isDg b = true) → (∀ b ∈ e, isDg b = true) → d.length = e.length → (e < d ↔ numV e < numV d) := by
  intro d
  induction d with
  | nil =>
    intro e _ _ hl
    have : e = [] := List.eq_nil_of_length_eq_zero (by simpa using hl.symm)
    subst this
    simp
  | cons b r ih =>
    intro e hd he hl
    cases e with
    | nil => cases hl
    | cons c q =>
      have hl2 : r.length = q.length := by simpa using hl
      have h1 := ih q (fun x hx => hd x (List.mem_cons_of_mem _ hx)) (fun x hx => he x (List.mem_cons_of_mem _ hx)) hl2
      have hb := hd b (List.mem_cons_self ..)
      have hc := he c (List.mem_cons_self ..)
      have n1 := numV_lt r (fun x hx => hd x (List.mem_cons_of_mem _ hx))
      have n2 := numV_lt q (fun x hx => he x (List.mem_cons_of_mem _ hx))
      rw [numV_cons, numV_cons, List.cons_lt_cons_iff, h1, ← hl2]
      rw [← hl2] at n2
      simp only [isDg, Bool.and_eq_true, decide_eq_true_eq] at hb hc
      have hlt : c < b ↔ c.toNat < b.toNat := UInt8.lt_iff_toNat_lt
      have heq : c = b ↔ c.toNat = b.toNat := ⟨fun h => by rw [h], fun h => UInt8.toNat_inj.1 h⟩
      rw [hlt, heq]
      generalize 10 ^ r.length = P at *
      obtain ⟨x, hx⟩ : ∃ x, b.toNat = x + 48 := ⟨b.toNat - 48, by omega⟩
      obtain ⟨y, hy⟩ : ∃ y, c.toNat = y + 48 := ⟨c.toNat - 48, by omega⟩
      rw [hx, hy]
      simp only [Nat.add_sub_cancel]
      rcases Nat.lt_trichotomy y x with h | h | h
      · have := Nat.mul_le_mul_right P (show y + 1 ≤ x by omega)
        rw [Nat.add_mul, Nat.one_mul] at this
        constructor
        · intro _; omega
        · intro _; exact Or.inl (by omega)
      · subst h
        constructor
        · rintro (g | ⟨_, g⟩)
          · omega
          · omega
        · intro g; exact Or.inr ⟨rfl, by omega⟩
      · have := Nat.mul_le_mul_right P (show x + 1 ≤ y by omega)
        rw [Nat.add_mul, Nat.one_mul] at this
        constructor
        · rintro (g | ⟨g, _⟩) <;> omega
        · intro g; omega

def maxT : B := [57, 50, 50, 51, 51, 55, 50, 48, 51, 54, 56, 53, 52, 55, 55, 53, 56, 48, 55]
theorem numV_maxT : numV maxT = 9223372036854775807 := by decide +kernel
/-- Whether a number is beyond what there is, by its digits. -/
theorem big_says (d : B) (hd : ∀ b ∈ d, isDg b = true) (h0 : d.length ≤ 1 ∨ d.head? ≠ some 48) : bigV d = (decide (19 < d.length) || (decide (d.length = 19) && decide (maxT < d))) := by
  have hlt := numV_lt d hd
  have hge : 19 < d.length → 10 ^ 19 ≤ numV d := by
    intro h
    cases d with
    | nil => cases h
    | cons b r =>
      have hb : b ≠ 48 := by
        rcases h0 with h0 | h0
        · omega
        · intro e; exact h0 (by rw [e]; rfl)
      have hb2 := hd b (List.mem_cons_self ..)
      have hb3 : 1 ≤ b.toNat - 48 := by
        have hne : b.toNat ≠ 48 := fun e => hb (UInt8.toNat_inj.1 e)
        simp [isDg] at hb2; omega
      rw [numV_cons]
      have h1 : 10 ^ 19 ≤ 10 ^ r.length := Nat.pow_le_pow_right (by decide) (by rw [List.length_cons] at h; omega)
      have h2 := Nat.mul_le_mul_right (10 ^ r.length) hb3
      omega
  unfold bigV
  by_cases h1 : 19 < d.length
  · have := hge h1
    rw [decide_eq_true (by omega : 9223372036854775807 < numV d), decide_eq_true h1]; rfl
  · by_cases h2 : d.length = 19
    · have := num_order d maxT hd (by decide) h2
      rw [numV_maxT] at this
      rw [decide_eq_false h1, decide_eq_true h2]
      simp only [Bool.false_or, Bool.true_and]
      exact decide_eq_decide.2 this.symm
    · have h3 : 10 ^ d.length ≤ 10 ^ 18 := Nat.pow_le_pow_right (by decide) (by omega)
      rw [decide_eq_false h1, decide_eq_false h2, decide_eq_false (by omega : ¬ 9223372036854775807 < numV d)]; rfl

/-- What the last token must be for the reference's mayEnd to say what the document does. -/
def Fine (t : Tok) : Prop := mayR t.kind t.text = mayV t.kind t.text ∧ (t.kind = 2 → noSp t.text = true) ∧ t.text.length ≤ 4000
theorem keys_fine : ∀ z ∈ keysL, noSp z = true ∧ (z == [41]) = false ∧ (z == [125]) = false := by decide
theorem fine_step {l : B} {may : Bool} {k n at_ : Nat} (hl : l ≠ []) (hlen : l.length ≤ 4000) (h : stepV l may = .cut (.tok k n)) : Fine ⟨k, l.take n, at_⟩ := by
  obtain ⟨hn1, hn2, _⟩ := step_tok hl h
  have hsz : (l.take n).length ≤ 4000 := by rw [List.length_take]; omega
  have k5 : ∀ c r, l = c :: r → (c = 59 ∨ c = 10) → k = 5 → n = 1 → Fine ⟨k, l.take n, at_⟩ := by
    intro c r hlr hc hk hn
    subst hk; subst hn; subst hlr
    refine ⟨?_, (fun h => by cases h), hsz⟩
    rcases hc with rfl | rfl <;> rfl
  cases l with
  | nil => exact absurd rfl hl
  | cons b r =>
    rw [stepV_cons] at h
    split at h
    · cases h
    · split at h
      · cases h
      · split at h
        · rename_i hb
          split at h
          · cases h; exact k5 b r rfl (Or.inr hb) rfl rfl
          · cases h
        · have h' : cutV (b :: r) = .tok k n := by injection h
          rw [cutV_cons] at h'
          split at h'
          · rename_i hb; cases h'; exact k5 b r rfl (Or.inl hb) rfl rfl
          · split at h'
            · unfold numCut at h'
              split at h'
              · cases h'
              · split at h'
                · cases h'
                · injection h' with h1 h2
                  subst h1
                  exact ⟨rfl, (fun h => by cases h), hsz⟩
            · split at h'
              · unfold wordCut at h'
                split at h'
                · rename_i hk
                  injection h' with h1 h2
                  subst h1; subst h2
                  obtain ⟨g1, g2, g3⟩ := keys_fine _ (List.contains_iff_mem.1 hk)
                  refine ⟨?_, fun _ => g1, hsz⟩
                  show mayR 2 _ = mayV 2 _
                  unfold mayR mayV
                  rw [g2, g3]; rfl
                · split at h'
                  · cases h'
                  · injection h' with h1 h2
                    subst h1
                    exact ⟨rfl, (fun h => by cases h), hsz⟩
              · unfold sigCut at h'
                split at h'
                · injection h' with h1 h2
                  subst h1
                  refine ⟨?_, (fun h => by cases h), hsz⟩
                  show mayR 4 _ = mayV 4 _
                  unfold mayR mayV
                  simp
                · cases h'
theorem wordV_pos_iff (l : B) : 0 < wordV l ↔ 0 < alnV l := by
  rw [wordV_eq]
  split
  · omega
  · have := alnV_le l; omega
theorem alnV_nodig {l : B} (h : ∀ b r, l = b :: r → isDg b = false) : alnV l = letV l := by
  unfold alnV
  split
  · rename_i h0
    rw [h0]
    cases l with
    | nil => rfl
    | cons b r => simp [h b r rfl]
  · rfl
theorem digV_drop_head (l : B) : ∀ b r, l.drop (digV l) = b :: r → isDg b = false := by
  induction l with
  | nil => intro b r h; simp at h
  | cons c q ih =>
    intro b r h
    by_cases hc : isDg c = true
    · rw [digV_cons hc, List.drop_succ_cons] at h
      exact ih b r h
    · rw [digV_no (by simpa using hc), List.drop_zero] at h
      injection h with h1 h2
      subst h1
      simpa using hc
theorem mem_tw {p : UInt8 → Bool} : ∀ (l : B) {b : UInt8}, b ∈ l.takeWhile p → p b = true := by
  intro l
  induction l with
  | nil => intro b h; cases h
  | cons c r ih =>
    intro b h
    by_cases hc : p c = true
    · rw [List.takeWhile_cons_of_pos hc] at h
      rcases List.mem_cons.1 h with rfl | h
      · exact hc
      · exact ih h
    · rw [List.takeWhile_cons_of_neg hc] at h
      cases h
theorem digV_all (l : B) : ∀ b ∈ l.take (digV l), isDg b = true := by
  rw [digV_take]
  intro b hb
  exact mem_tw _ hb
/-- The cut of a number, as the reference goes about it. -/
theorem numCut_ref (l : B) : numCut l = if (1 < digV l ∧ l.head? = some 48) ∨ 0 < wordV (l.drop (digV l)) then .err 3 else if 19 < digV l ∨ digV l = 19 ∧ maxT < l.take (digV l) then .err 2 else .tok 3 (digV l) := by
  have e1 : 0 < wordV (l.drop (digV l)) ↔ 0 < letV (l.drop (digV l)) := by
    rw [wordV_pos_iff, alnV_nodig (digV_drop_head l)]
  unfold numCut
  by_cases h1 : (1 < digV l ∧ l.head? = some 48) ∨ 0 < wordV (l.drop (digV l))
  · have h1' := h1
    rw [e1] at h1'
    rw [if_pos h1, if_pos h1']
  · have h1' := h1
    rw [e1] at h1'
    rw [if_neg h1, if_neg h1']
    have hlen : (l.take (digV l)).length = digV l := by rw [List.length_take]; have := digV_le l; omega
    have hb := big_says (l.take (digV l)) (digV_all l) (by
      rw [hlen]
      by_cases h2 : digV l ≤ 1
      · exact Or.inl h2
      · refine Or.inr (fun h3 => h1 (Or.inl ⟨by omega, ?_⟩))
        cases l with
        | nil => simp at h3
        | cons b r =>
          rw [List.head?_take] at h3
          split at h3
          · cases h3
          · exact h3)
    rw [hb, hlen]
    by_cases h4 : 19 < digV l ∨ digV l = 19 ∧ maxT < l.take (digV l)
    · rw [if_pos h4, if_pos (by simpa using h4)]
    · rw [if_neg h4, if_neg (by simpa using h4)]
theorem numCut_says (l : B) : (((1 < digV l ∧ l.head? = some 48) ∨ 0 < wordV (l.drop (digV l))) → numCut l = .err 3) ∧
    (¬ ((1 < digV l ∧ l.head? = some 48) ∨ 0 < wordV (l.drop (digV l))) → (19 < digV l ∨ digV l = 19 ∧ maxT < l.take (digV l)) → numCut l = .err 2) ∧
    (¬ ((1 < digV l ∧ l.head? = some 48) ∨ 0 < wordV (l.drop (digV l))) → ¬ (19 < digV l ∨ digV l = 19 ∧ maxT < l.take (digV l)) → numCut l = .tok 3 (digV l)) := by
  rw [numCut_ref]
  refine ⟨fun h => by rw [if_pos h], fun h g => by rw [if_neg h, if_pos g], fun h g => by rw [if_neg h, if_neg g]⟩
end Go.Proofs.YthkfdhglgonmnaaGreatDoor
