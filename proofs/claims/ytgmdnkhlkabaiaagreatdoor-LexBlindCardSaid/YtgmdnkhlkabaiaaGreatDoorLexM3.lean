/-
  Tokens, as chapter 7 has them: what the laws say of them (each stands where it is told; the same again; line by line; however many blanks).
-/
import Derived.Test.YtgmdnkhlkabaiaaGreatDoorLexM2
namespace Go.Proofs.YtgmdnkhlkabaiaaGreatDoor
namespace Lx

/-! Each token stands where it is told. -/
/-- Blanks, line feeds and remarks alone. -/
inductive Btw : B → Prop
  | nil : Btw []
  | blank (b : UInt8) (r : B) : isStop b = true → Btw r → Btw (b :: r)
  | remEnd (l : B) : [47, 47].isPrefixOf l = true → lineV l = l.length → Btw l
  | rem (l : B) : [47, 47].isPrefixOf l = true → Btw (l.drop (lineV l)) → Btw l

def StandsT : B → Nat → List Tok → Prop
  | l, _, [] => Btw l
  | l, a, t :: ts => ∃ d, t.at_ = a + d ∧ d + t.text.length ≤ l.length ∧ Btw (l.take d) ∧ (l.drop d).take t.text.length = t.text ∧ (t.text = [] → ts = [] ∧ d = l.length) ∧ StandsT (l.drop (d + t.text.length)) (a + d + t.text.length) ts

theorem pfx_take {l : B} {m : Nat} (h : [47, 47].isPrefixOf l = true) (hm : 2 ≤ m) : [47, 47].isPrefixOf (l.take m) = true := by
  obtain ⟨r, rfl⟩ := List.isPrefixOf_iff_prefix.1 h
  obtain ⟨k, rfl⟩ : ∃ k, m = k + 2 := ⟨m - 2, by omega⟩
  simp [List.isPrefixOf]

theorem stands_skip {l : B} {a n : Nat} {may : Bool} {ts : List Tok} (hl : l ≠ []) (hs : stepV l may = .skip n) (h : StandsT (l.drop n) (a + n) ts) : StandsT l a ts := by
  obtain ⟨h1, h2⟩ := step_skip hl hs
  have gap : ∀ d, Btw ((l.drop n).take d) → Btw (l.take (n + d)) := by
    intro d hd
    cases l with
    | nil => exact absurd rfl hl
    | cons b r =>
      rw [stepV_cons] at hs
      by_cases hb : isBl b = true
      · rw [if_pos hb] at hs
        cases hs
        rw [Nat.add_comm 1 d, List.take_succ_cons]
        exact Btw.blank b _ (stop_of_bl hb) hd
      · rw [if_neg hb] at hs
        by_cases hp : [47, 47].isPrefixOf (b :: r) = true
        · rw [if_pos hp] at hs
          cases hs
          have h3 := lineV_two hp
          have h4 := lineV_take (b :: r) (lineV (b :: r) + d) (by omega)
          refine Btw.rem _ (pfx_take hp (by omega)) ?_
          rw [h4]
          rw [List.drop_take, Nat.add_sub_cancel_left]
          exact hd
        · rw [if_neg hp] at hs
          by_cases h10 : b = 10
          · rw [if_pos h10] at hs
            cases may
            · cases hs
              rw [Nat.add_comm 1 d, List.take_succ_cons]
              exact Btw.blank b _ (by rw [h10]; decide) hd
            · cases hs
          · rw [if_neg h10] at hs
            cases hs
  cases ts with
  | nil =>
    have := gap (l.length - n) (by rw [List.take_of_length_le (by rw [List.length_drop]; omega)]; exact h)
    rw [List.take_of_length_le (by omega)] at this
    exact this
  | cons t ts =>
    obtain ⟨d, g1, g2, g3, g4, g5, g6⟩ := h
    rw [List.length_drop] at g2 g5
    refine ⟨n + d, by omega, by omega, gap d g3, by rw [← List.drop_drop]; exact g4, fun e => ⟨(g5 e).1, by have := (g5 e).2; omega⟩, ?_⟩
    rw [List.drop_drop] at g6
    rw [show n + d + t.text.length = n + (d + t.text.length) by omega, show a + (n + d) + t.text.length = a + n + d + t.text.length by omega]
    exact g6

theorem lx_stands : ∀ (l : B) (a : Nat) (may : Bool) (ts : List Tok), lx l a may = (ts, none) → StandsT l a ts := by
  refine lx_induct (fun l a _ ts => StandsT l a ts) ?_ ?_ ?_
  · intro a may
    cases may with
    | false => exact Btw.nil
    | true => exact ⟨0, rfl, Nat.le_refl _, Btw.nil, rfl, fun _ => ⟨rfl, rfl⟩, Btw.nil⟩
  · intro l a may n ts hl hs _ _ _ ih
    exact stands_skip hl hs ih
  · intro l a may k n ts hl hs h1 h2 _ ih
    have hlen : (l.take n).length = n := by rw [List.length_take]; omega
    refine ⟨0, rfl, by simp only [hlen]; omega, Btw.nil, by simp only [hlen]; rfl, fun e => ?_, ?_⟩
    · simp only at e
      rw [e] at hlen; simp at hlen; omega
    · simp only [hlen, Nat.zero_add, Nat.add_zero]
      exact ih

/-! The same tokens again. -/
def againT (t : Tok) : B := if t.kind = 5 then [59] else t.text
def outV (ts : List Tok) : B := ts.flatMap fun t => againT t ++ [32]
def Same (ts us : List Tok) : Prop := ts.map (fun t => (t.kind, againT t)) = us.map fun t => (t.kind, t.text)

theorem step_32 (r : B) (may : Bool) : stepV (32 :: r) may = .skip 1 := rfl
theorem step_cut_local {l x : B} {k n : Nat} {may : Bool} (hl : l ≠ []) (hs : stepV l may = .cut (.tok k n)) (hk : k ≠ 5) (may' : Bool) : stepV (l.take n ++ 32 :: x) may' = .cut (.tok k n) := by
  obtain ⟨h1, h2, _⟩ := step_tok hl hs
  cases l with
  | nil => exact absurd rfl hl
  | cons b r =>
    rw [stepV_cons] at hs
    by_cases hb : isBl b = true
    · rw [if_pos hb] at hs; cases hs
    · rw [if_neg hb] at hs
      by_cases hp : [47, 47].isPrefixOf (b :: r) = true
      · rw [if_pos hp] at hs; cases hs
      · rw [if_neg hp] at hs
        by_cases h10 : b = 10
        · rw [if_pos h10] at hs
          cases may
          · cases hs
          · cases hs; exact absurd rfl hk
        · rw [if_neg h10] at hs
          have hc : cutV (b :: r) = .tok k n := by injection hs
          obtain ⟨m, rfl⟩ : ∃ m, n = m + 1 := ⟨n - 1, by omega⟩
          have hp' : ¬ [47, 47].isPrefixOf ((b :: r).take (m + 1) ++ 32 :: x) = true := by
            rw [pfx_ext [47, 47] _ x 32 (by decide)]
            intro hq
            have h3 := List.isPrefixOf_iff_prefix.1 hq
            exact hp (List.isPrefixOf_iff_prefix.2 (h3.trans (List.take_prefix _ _)))
          have hc' : cutV ((b :: r).take (m + 1) ++ 32 :: x) = .tok k (m + 1) := by
            have hlen : ((b :: r).take (m + 1)).length = m + 1 := by rw [List.length_take]; omega
            rw [cutV_cons] at hc
            rw [cutV_ext _ x 32 stop_32 (by simp), List.take_succ_cons, cutV_cons, ← List.take_succ_cons]
            by_cases h59 : b = 59
            · rw [if_pos h59] at hc; cases hc; exact absurd rfl hk
            · rw [if_neg h59] at hc ⊢
              by_cases hd : isDg b = true
              · rw [if_pos hd] at hc ⊢
                unfold numCut at hc
                split at hc
                · cases hc
                · rename_i hno
                  split at hc
                  · cases hc
                  · rename_i hbig
                    have hdn : digV (b :: r) = m + 1 := by injection hc
                    have hk3 : k = 3 := by injection hc with e1 _; exact e1.symm
                    rw [hdn] at hno hbig
                    have e1 : digV ((b :: r).take (m + 1)) = m + 1 := by
                      have := digV_cut (b :: r) [] 32 stop_32
                      rw [digV_ext _ [] 32 stop_32, hdn] at this
                      exact this
                    unfold numCut
                    rw [e1, List.drop_eq_nil_of_le (by omega), List.take_take, Nat.min_self, if_neg, if_neg hbig, hk3]
                    rintro (⟨g1, g2⟩ | g)
                    · refine hno (Or.inl ⟨g1, ?_⟩)
                      rw [List.take_succ_cons] at g2
                      exact g2
                    · exact absurd g (Nat.lt_irrefl _)
              · rw [if_neg hd] at hc ⊢
                by_cases hlt : 0 < letV (b :: r)
                · rw [if_pos hlt] at hc
                  have hwn : wordV (b :: r) = m + 1 := by
                    unfold wordCut at hc
                    split at hc
                    · injection hc
                    · split at hc
                      · cases hc
                      · injection hc
                  have e1 : wordV ((b :: r).take (m + 1)) = m + 1 := by
                    have := wordV_cut _ (b :: r) [] 32 (Nat.le_refl _) stop_32
                    rw [wordV_ext _ _ [] 32 (Nat.le_refl _) stop_32, hwn] at this
                    exact this
                  have e2 : 0 < letV ((b :: r).take (m + 1)) := by
                    have hle : letV (b :: r) ≤ m + 1 := by
                      rw [← hwn, wordV_eq]
                      have : alnV (b :: r) = letV (b :: r) := by unfold alnV; rw [if_neg (by omega)]
                      rw [this, if_neg (by omega)]; omega
                    obtain ⟨q, hq⟩ : ∃ q, m + 1 = letV (b :: r) + q := ⟨m + 1 - letV (b :: r), by omega⟩
                    rw [hq, List.take_add, letV_loc _ _ hlt]
                    exact hlt
                  rw [if_pos e2]
                  unfold wordCut at hc ⊢
                  rw [e1, List.take_take, Nat.min_self]
                  rw [hwn] at hc
                  exact hc
                · rw [if_neg hlt] at hc
                  unfold sigCut at hc
                  split at hc
                  · rename_i z hz
                    obtain ⟨g1, g2⟩ := sig_mem hz
                    have hzn : z.length = m + 1 := by injection hc
                    have hk4 : k = 4 := by injection hc with e1 _; exact e1.symm
                    have hzt : (b :: r).take (m + 1) = z := by
                      rw [← hzn]; exact (List.prefix_iff_eq_take.1 g2).symm
                    rw [hzt]
                    rw [if_neg (by rw [(sigs_head z g1).1]; omega)]
                    unfold sigCut
                    rw [sigs_self z g1, hk4, ← hzn]
                  · cases hc
          rw [List.take_succ_cons, List.cons_append] at hp' hc' ⊢
          rw [stepV_cons, if_neg hb, if_neg hp', if_neg h10, hc']

theorem mayV_five (t : B) : mayV 5 t = false := by simp [mayV]
theorem lx_again : ∀ (l : B) (a : Nat) (may : Bool) (ts : List Tok), lx l a may = (ts, none) → ∀ a', ∃ us, lx (outV ts) a' may = (us, none) ∧ Same ts us := by
  have blank : ∀ (r : B) (a : Nat) (may : Bool), lx (32 :: r) a may = lx r (a + 1) may := fun r a may => by rw [lx_skip (by simp) (step_32 r may)]; rfl
  have line : ∀ (r : B) (a : Nat) (may : Bool), lx (59 :: 32 :: r) a may = (⟨5, [59], a⟩ :: (lx r (a + 2) false).1, (lx r (a + 2) false).2) := fun r a may => by
    rw [lx_tok (k := 5) (n := 1) (by simp) rfl]
    simp only [List.take, List.drop]
    rw [mayV_five, blank]
  refine lx_induct (fun l a may ts => ∀ a', ∃ us, lx (outV ts) a' may = (us, none) ∧ Same ts us) ?_ ?_ ?_
  · intro a may a'
    cases may with
    | false => exact ⟨[], rfl, rfl⟩
    | true => exact ⟨_, line [] a' true, rfl⟩
  · intro l a may n ts hl hs _ _ _ ih a'
    exact ih a'
  · intro l a may k n ts hl hs h1 h2 _ ih a'
    have e : outV (⟨k, l.take n, a⟩ :: ts) = (if k = 5 then [59] else l.take n) ++ 32 :: outV ts := by
      simp [outV, againT]
    by_cases hk : k = 5
    · subst hk
      rw [mayV_five] at ih
      obtain ⟨us, g1, g2⟩ := ih (a' + 2)
      rw [e, if_pos rfl]
      refine ⟨⟨5, [59], a'⟩ :: us, ?_, ?_⟩
      · show lx (59 :: 32 :: outV ts) a' may = _
        rw [line, g1]
      · unfold Same at g2 ⊢
        rw [List.map_cons, List.map_cons, g2]; rfl
    · have hst := step_cut_local (x := outV ts) hl hs hk may
      have hlen : (l.take n).length = n := by rw [List.length_take]; omega
      obtain ⟨us, g1, g2⟩ := ih (a' + n + 1)
      rw [e, if_neg hk]
      refine ⟨⟨k, l.take n, a'⟩ :: us, ?_, ?_⟩
      · rw [lx_tok (by simp) hst]
        rw [List.take_left' hlen, List.drop_left' hlen, blank, g1]
      · unfold Same at g2 ⊢
        rw [List.map_cons, List.map_cons, g2]
        simp [againT, hk]
end Lx
end Go.Proofs.YtgmdnkhlkabaiaaGreatDoor
