/-
  Tokens, as chapter 7 has them: a text's tokens, step by step; what a byte more changes nothing of.
-/
import Derived.Test.YthkfdhglgonmnaaGreatDoorLexM
namespace Go.Proofs.YthkfdhglgonmnaaGreatDoor
namespace Lx

theorem pfx_ext : ∀ (z l x : B) (b : UInt8), b ∉ z → z.isPrefixOf (l ++ b :: x) = z.isPrefixOf l := by
  intro z
  induction z with
  | nil => intro l x b _; cases l <;> rfl
  | cons c z ih =>
    intro l x b hb
    cases l with
    | nil =>
      have : c ≠ b := fun e => hb (by rw [e]; exact List.mem_cons_self ..)
      simp [List.isPrefixOf, this]
    | cons d l =>
      have := ih l x b (fun h => hb (List.mem_cons_of_mem _ h))
      simp [List.isPrefixOf, this]

theorem stop_ne {b : UInt8} (h : isStop b = true) {c : UInt8} (hc : isStop c = false) : b ≠ c := fun e => by rw [e, hc] at h; cases h
theorem sigs_noStop : ∀ z ∈ sigsL, ∀ c ∈ z, isStop c = false := by decide
theorem sigs_self : ∀ z ∈ sigsL, sigsL.find? (·.isPrefixOf z) = some z := by decide
theorem sigs_pos : ∀ z ∈ sigsL, 0 < z.length := by decide
theorem sigs_head : ∀ z ∈ sigsL, letV z = 0 ∧ (∀ c ∈ z.head?, c ≠ 59 ∧ isDg c = false ∧ isBl c = false ∧ c ≠ 10) ∧ [47, 47].isPrefixOf z = false := by decide
theorem sig_mem {l z : B} (h : sigsL.find? (·.isPrefixOf l) = some z) : z ∈ sigsL ∧ z <+: l := ⟨List.mem_of_find?_eq_some h, List.isPrefixOf_iff_prefix.1 (by simpa using List.find?_some h)⟩

theorem find_ext (l x : B) (b : UInt8) (hb : isStop b = true) : sigsL.find? (·.isPrefixOf (l ++ b :: x)) = sigsL.find? (·.isPrefixOf l) := by
  have key : ∀ L : List B, (∀ z ∈ L, b ∉ z) → L.find? (·.isPrefixOf (l ++ b :: x)) = L.find? (·.isPrefixOf l) := by
    intro L
    induction L with
    | nil => intro _; rfl
    | cons z L ih =>
      intro h
      rw [List.find?_cons, List.find?_cons, pfx_ext z l x b (h z (List.mem_cons_self ..)), ih fun y hy => h y (List.mem_cons_of_mem _ hy)]
  exact key sigsL fun z hz hm => by have := sigs_noStop z hz b hm; rw [hb] at this; cases this

theorem cutV_cons (b : UInt8) (r : B) : cutV (b :: r) = if b = 59 then .tok 5 1 else if isDg b then numCut (b :: r) else if 0 < letV (b :: r) then wordCut (b :: r) else sigCut (b :: r) := rfl
theorem stepV_cons (b : UInt8) (r : B) (may : Bool) : stepV (b :: r) may = if isBl b then .skip 1 else if [47, 47].isPrefixOf (b :: r) then .skip (lineV (b :: r)) else if b = 10 then (if may then .cut (.tok 5 1) else .skip 1) else .cut (cutV (b :: r)) := rfl
theorem cutV_ext (l x : B) (b : UInt8) (hb : isStop b = true) (h : l ≠ []) : cutV (l ++ b :: x) = cutV l := by
  cases l with
  | nil => exact absurd rfl h
  | cons c r =>
    have hn : numCut (c :: r ++ b :: x) = numCut (c :: r) := by
      have hle := digV_le (c :: r)
      unfold numCut
      rw [digV_ext _ x b hb, List.drop_append_of_le_length hle, letV_ext _ x b hb, List.take_append_of_le_length hle]
      rfl
    have hw : wordCut (c :: r ++ b :: x) = wordCut (c :: r) := by
      have hle := wordV_le _ (c :: r) (Nat.le_refl _)
      unfold wordCut
      rw [wordV_ext _ (c :: r) x b (Nat.le_refl _) hb, List.take_append_of_le_length hle]
    have hs : sigCut (c :: r ++ b :: x) = sigCut (c :: r) := by
      unfold sigCut
      rw [find_ext _ x b hb]
    have hl := letV_ext (c :: r) x b hb
    rw [List.cons_append] at hn hw hs hl ⊢
    simp only [cutV_cons, hn, hw, hs, hl]

theorem lineV_two {l : B} (h : [47, 47].isPrefixOf l = true) : 2 ≤ lineV l := by
  obtain ⟨r, rfl⟩ := List.isPrefixOf_iff_prefix.1 h
  show 2 ≤ (List.takeWhile (fun b => b != 10) (47 :: 47 :: r)).length
  rw [List.takeWhile_cons_of_pos (by decide), List.takeWhile_cons_of_pos (by decide)]
  simp only [List.length_cons]; omega

theorem cutV_tok {l : B} {k n : Nat} (h : cutV l = .tok k n) : 1 ≤ n ∧ n ≤ l.length ∧ (k = 1 ∨ k = 2 ∨ k = 3 ∨ k = 4 ∨ k = 5) := by
  cases l with
  | nil => cases h
  | cons b r =>
    rw [cutV_cons] at h
    split at h
    · cases h; exact ⟨Nat.le_refl _, by simp, by simp⟩
    · split at h
      · rename_i hd
        unfold numCut at h
        have h1 := digV_le (b :: r)
        have h2 := digV_cons (r := r) hd
        split at h
        · cases h
        · split at h
          · cases h
          · cases h; exact ⟨by omega, h1, by simp⟩
      · split at h
        · rename_i hl
          have h1 := wordV_le _ (b :: r) (Nat.le_refl _)
          have h2 : 0 < wordV (b :: r) := wordV_pos (by unfold alnV; rw [if_neg (by omega)]; exact hl)
          unfold wordCut at h
          split at h
          · cases h; exact ⟨h2, h1, by simp⟩
          · split at h
            · cases h
            · cases h; exact ⟨h2, h1, by simp⟩
        · unfold sigCut at h
          split at h
          · rename_i x hx
            cases h
            obtain ⟨g1, g2⟩ := sig_mem hx
            exact ⟨sigs_pos x g1, g2.length_le, by simp⟩
          · cases h

theorem step_skip {l : B} {may : Bool} {n : Nat} (hl : l ≠ []) (h : stepV l may = .skip n) : 1 ≤ n ∧ n ≤ l.length := by
  cases l with
  | nil => exact absurd rfl hl
  | cons b r =>
    rw [stepV_cons] at h
    split at h
    · cases h; simp
    · split at h
      · rename_i hp
        cases h
        exact ⟨by have := lineV_two hp; omega, lineV_le _⟩
      · split at h
        · split at h
          · cases h
          · cases h; simp
        · cases h
theorem step_tok {l : B} {may : Bool} {k n : Nat} (hl : l ≠ []) (h : stepV l may = .cut (.tok k n)) : 1 ≤ n ∧ n ≤ l.length ∧ (k = 1 ∨ k = 2 ∨ k = 3 ∨ k = 4 ∨ k = 5) := by
  cases l with
  | nil => exact absurd rfl hl
  | cons b r =>
    rw [stepV_cons] at h
    split at h
    · cases h
    · split at h
      · cases h
      · split at h
        · split at h
          · cases h; exact ⟨Nat.le_refl _, by simp, by simp⟩
          · cases h
        · have h' : cutV (b :: r) = .tok k n := by injection h
          exact cutV_tok h'

theorem lxF_fuel : ∀ (f g : Nat) (l : B) (a : Nat) (may : Bool), l.length ≤ f → l.length ≤ g → lxF f l a may = lxF g l a may := by
  intro f
  induction f with
  | zero =>
    intro g l a may hf _
    have : l = [] := List.eq_nil_of_length_eq_zero (by omega)
    subst this
    cases g with
    | zero => rfl
    | succ g => rfl
  | succ f ih =>
    intro g l a may hf hg
    cases g with
    | zero =>
      have : l = [] := List.eq_nil_of_length_eq_zero (by omega)
      subst this
      rfl
    | succ g =>
      unfold lxF
      by_cases hl : l = []
      · rw [if_pos hl, if_pos hl]
      · rw [if_neg hl, if_neg hl]
        cases hs : stepV l may with
        | skip n =>
          obtain ⟨h1, h2⟩ := step_skip hl hs
          have := ih g (l.drop n) (a + n) may (by rw [List.length_drop]; omega) (by rw [List.length_drop]; omega)
          exact this
        | cut c =>
          cases c with
          | err e => rfl
          | tok k n =>
            obtain ⟨h1, h2, _⟩ := step_tok hl hs
            have := ih g (l.drop n) (a + n) (mayV k (l.take n)) (by rw [List.length_drop]; omega) (by rw [List.length_drop]; omega)
            simp only [this]
theorem lx_nil (a : Nat) (may : Bool) : lx [] a may = (endV a may, none) := rfl
theorem lx_unf {l : B} (hl : l ≠ []) (a : Nat) (may : Bool) : lx l a may = match stepV l may with
    | .skip n => lx (l.drop n) (a + n) may
    | .cut (.tok k n) => (⟨k, l.take n, a⟩ :: (lx (l.drop n) (a + n) (mayV k (l.take n))).1, (lx (l.drop n) (a + n) (mayV k (l.take n))).2)
    | .cut (.err e) => ([], some (e, a)) := by
  have hp : 0 < l.length := List.length_pos_iff.2 hl
  obtain ⟨m, hm⟩ : ∃ m, l.length = m + 1 := ⟨l.length - 1, by omega⟩
  have e : lx l a may = lxF (m + 1) l a may := by unfold lx; rw [hm]
  rw [e]
  conv => lhs; unfold lxF
  rw [if_neg hl]
  cases hs : stepV l may with
  | skip n =>
    obtain ⟨h1, h2⟩ := step_skip hl hs
    exact lxF_fuel _ _ _ _ _ (by rw [List.length_drop]; omega) (Nat.le_refl _)
  | cut c =>
    cases c with
    | err e => rfl
    | tok k n =>
      obtain ⟨h1, h2, _⟩ := step_tok hl hs
      have := lxF_fuel m _ (l.drop n) (a + n) (mayV k (l.take n)) (by rw [List.length_drop]; omega) (Nat.le_refl _)
      simp only [this, lx]
theorem lx_skip {l : B} {may : Bool} {n : Nat} (hl : l ≠ []) (h : stepV l may = .skip n) (a : Nat) : lx l a may = lx (l.drop n) (a + n) may := by
  rw [lx_unf hl, h]
theorem lx_tok {l : B} {may : Bool} {k n : Nat} (hl : l ≠ []) (h : stepV l may = .cut (.tok k n)) (a : Nat) :
    lx l a may = (⟨k, l.take n, a⟩ :: (lx (l.drop n) (a + n) (mayV k (l.take n))).1, (lx (l.drop n) (a + n) (mayV k (l.take n))).2) := by
  rw [lx_unf hl, h]
theorem lx_err {l : B} {may : Bool} {e : Nat} (hl : l ≠ []) (h : stepV l may = .cut (.err e)) (a : Nat) : lx l a may = ([], some (e, a)) := by
  rw [lx_unf hl, h]

/-- What is cut with nothing wrong, by induction along its steps. -/
theorem lx_induct (C : B → Nat → Bool → List Tok → Prop)
    (hnil : ∀ a may, C [] a may (endV a may))
    (hskip : ∀ l a may n ts, l ≠ [] → stepV l may = .skip n → 1 ≤ n → n ≤ l.length → lx (l.drop n) (a + n) may = (ts, none) → C (l.drop n) (a + n) may ts → C l a may ts)
    (htok : ∀ l a may k n ts, l ≠ [] → stepV l may = .cut (.tok k n) → 1 ≤ n → n ≤ l.length → lx (l.drop n) (a + n) (mayV k (l.take n)) = (ts, none) → C (l.drop n) (a + n) (mayV k (l.take n)) ts → C l a may (⟨k, l.take n, a⟩ :: ts)) :
    ∀ l a may ts, lx l a may = (ts, none) → C l a may ts := by
  have key : ∀ m, ∀ l : B, l.length ≤ m → ∀ a may ts, lx l a may = (ts, none) → C l a may ts := by
    intro m
    induction m with
    | zero =>
      intro l hm a may ts h
      have : l = [] := List.eq_nil_of_length_eq_zero (by omega)
      subst this
      rw [lx_nil] at h
      cases h
      exact hnil a may
    | succ m ih =>
      intro l hm a may ts h
      by_cases hl : l = []
      · subst hl
        rw [lx_nil] at h
        cases h
        exact hnil a may
      · cases hs : stepV l may with
        | skip n =>
          obtain ⟨h1, h2⟩ := step_skip hl hs
          rw [lx_skip hl hs] at h
          exact hskip l a may n ts hl hs h1 h2 h (ih _ (by rw [List.length_drop]; omega) _ _ _ h)
        | cut c =>
          cases c with
          | err e => rw [lx_err hl hs] at h; cases h
          | tok k n =>
            obtain ⟨h1, h2, _⟩ := step_tok hl hs
            rw [lx_tok hl hs] at h
            obtain ⟨rfl, h4⟩ := Prod.mk.inj h
            have h5 : lx (l.drop n) (a + n) (mayV k (l.take n)) = ((lx (l.drop n) (a + n) (mayV k (l.take n))).1, none) := by
              rw [← h4]
            exact htok l a may k n _ hl hs h1 h2 h5 (ih _ (by rw [List.length_drop]; omega) _ _ _ h5)
  exact fun l => key l.length l (Nat.le_refl _)

theorem lineV_drop_head : ∀ (l : B), lineV l < l.length → ∃ r, l.drop (lineV l) = 10 :: r := by
  intro l
  induction l with
  | nil => intro h; exact absurd h (Nat.lt_irrefl _)
  | cons b r ih =>
    intro h
    by_cases hb : b = 10
    · subst hb
      exact ⟨r, by unfold lineV; rw [List.takeWhile_cons_of_neg (by decide)]; rfl⟩
    · have e : lineV (b :: r) = lineV r + 1 := by unfold lineV; rw [List.takeWhile_cons_of_pos (by simpa using hb)]; rfl
      rw [e] at h ⊢
      rw [List.drop_succ_cons]
      exact ih (by simpa using h)
theorem lineV_ext (l x : B) : lineV (l ++ 10 :: x) = lineV l := by
  induction l with
  | nil => rfl
  | cons b r ih =>
    unfold lineV at ih ⊢
    by_cases hb : b = 10
    · subst hb; rfl
    · rw [List.cons_append, List.takeWhile_cons_of_pos (by simpa using hb), List.takeWhile_cons_of_pos (by simpa using hb), List.length_cons, List.length_cons, ih]
theorem lineV_take (l : B) (m : Nat) (h : lineV l ≤ m) : lineV (l.take m) = lineV l := by
  induction l generalizing m with
  | nil => simp [lineV]
  | cons b r ih =>
    by_cases hb : b = 10
    · subst hb
      cases m with
      | zero => rfl
      | succ m => rfl
    · have e : ∀ r : B, lineV (b :: r) = lineV r + 1 := fun r => by unfold lineV; rw [List.takeWhile_cons_of_pos (by simpa using hb)]; rfl
      rw [e] at h
      cases m with
      | zero => omega
      | succ m => rw [List.take_succ_cons, e, e, ih m (by omega)]

theorem stop_of_bl {b : UInt8} (h : isBl b = true) : isStop b = true := by
  simp [isBl] at h; simp [isStop]; omega
theorem stop_32 : isStop 32 = true := by decide
theorem stop_10 : isStop 10 = true := by decide
/-- A line feed behind a text changes nothing of its steps. -/
theorem step_ext (l x : B) (may : Bool) (h : l ≠ []) : stepV (l ++ 10 :: x) may = stepV l may := by
  have h1 := pfx_ext [47, 47] l x 10 (by decide)
  have h2 := lineV_ext l x
  have h3 := cutV_ext l x 10 stop_10 h
  cases l with
  | nil => exact absurd rfl h
  | cons b r =>
    rw [List.cons_append] at h1 h2 h3 ⊢
    rw [stepV_cons, stepV_cons, h1, h2, h3]
end Lx
end Go.Proofs.YthkfdhglgonmnaaGreatDoor
