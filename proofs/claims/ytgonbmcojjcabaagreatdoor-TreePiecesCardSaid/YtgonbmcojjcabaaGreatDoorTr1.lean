/-
  Texts of one proof, in build order: Tokens, as chapter 7 has them: what the laws say of them (each stands where it is told; the same again; line by line; however many blanks). | Tokens, as chapter 7 has them: what the laws say of them, second part: line by line; however many blanks. | Two programs in one text, a line feed between them: what is read is both, but for the places.
-/
import Derived.Test.YtgonbmcojjcabaaGreatDoorTr0
namespace Go.Proofs.YtgonbmcojjcabaaGreatDoor
namespace Lx

/-! Each token stands where it is told. -/
/-- Blanks, line feeds and remarks alone. -/
inductive Btw : B → Prop
  | nil : Btw []
  | blank (b : UInt8) (r : B) : isStop b = true → Btw r → Btw (b :: r)
  | remEnd (l : B) : [47, 47].isPrefixOf l = true → lineV l = l.length → Btw l
  | rem (l : B) : [47, 47].isPrefixOf l = true → Btw (l.drop (lineV l)) → Btw l

def StandsT : B → Nat → List Tok → Prop
  | l, _, [] => Btw l
  | l, a, t :: ts => ∃ d, t.at_ = a + d ∧ d + t.text.length ≤ l.length ∧ Btw (l.take d) ∧ (l.drop d).take t.text.length = t.text ∧ (t.text = [] → ts = [] ∧ d = l.length) ∧ StandsT (l.drop (d + t.text.length)) (a + d + t.text.length) ts

theorem pfx_take {l : B} {m : Nat} (h : [47, 47].isPrefixOf l = true) (hm : 2 ≤ m) : [47, 47].isPrefixOf (l.take m) = true := by
  obtain ⟨r, rfl⟩ := List.isPrefixOf_iff_prefix.1 h
  obtain ⟨k, rfl⟩ : ∃ k, m = k + 2 := ⟨m - 2, by omega⟩
  simp [List.isPrefixOf]

theorem stands_skip {l : B} {a n : Nat} {may : Bool} {ts : List Tok} (hl : l ≠ []) (hs : stepV l may = .skip n) (h : StandsT (l.drop n) (a + n) ts) : StandsT l a ts := by
  obtain ⟨h1, h2⟩ := step_skip hl hs
  have gap : ∀ d, Btw ((l.drop n).take d) → Btw (l.take (n + d)) := by
    intro d hd
    cases l with
    | nil => exact absurd rfl hl
    | cons b r =>
      rw [stepV_cons] at hs
      by_cases hb : isBl b = true
      · rw [if_pos hb] at hs
        cases hs
        rw [Nat.add_comm 1 d, List.take_succ_cons]
        exact Btw.blank b _ (stop_of_bl hb) hd
      · rw [if_neg hb] at hs
        by_cases hp : [47, 47].isPrefixOf (b :: r) = true
        · rw [if_pos hp] at hs
          cases hs
          have h3 := lineV_two hp
          have h4 := lineV_take (b :: r) (lineV (b :: r) + d) (by omega)
          refine Btw.rem _ (pfx_take hp (by omega)) ?_
          rw [h4]
          rw [List.drop_take, Nat.add_sub_cancel_left]
          exact hd
        · rw [if_neg hp] at hs
          by_cases h10 : b = 10
          · rw [if_pos h10] at hs
            cases may
            · cases hs
              rw [Nat.add_comm 1 d, List.take_succ_cons]
              exact Btw.blank b _ (by rw [h10]; decide) hd
            · cases hs
          · rw [if_neg h10] at hs
            cases hs
  cases ts with
  | nil =>
    have := gap (l.length - n) (by rw [List.take_of_length_le (by rw [List.length_drop]; omega)]; exact h)
    rw [List.take_of_length_le (by omega)] at this
    exact this
  | cons t ts =>
    obtain ⟨d, g1, g2, g3, g4, g5, g6⟩ := h
    rw [List.length_drop] at g2 g5
    refine ⟨n + d, by omega, by omega, gap d g3, by rw [← List.drop_drop]; exact g4, fun e => ⟨(g5 e).1, by have := (g5 e).2; omega⟩, ?_⟩
    rw [List.drop_drop] at g6
    rw [show n + d + t.text.length = n + (d + t.text.length) by omega, show a + (n + d) + t.text.length = a + n + d + t.text.length by omega]
    exact g6

theorem lx_stands : ∀ (l : B) (a : Nat) (may : Bool) (ts : List Tok), lx l a may = (ts, none) → StandsT l a ts := by
  refine lx_induct (fun l a _ ts => StandsT l a ts) ?_ ?_ ?_
  · intro a may
    cases may with
    | false => exact Btw.nil
    | true => exact ⟨0, rfl, Nat.le_refl _, Btw.nil, rfl, fun _ => ⟨rfl, rfl⟩, Btw.nil⟩
  · intro l a may n ts hl hs _ _ _ ih
    exact stands_skip hl hs ih
  · intro l a may k n ts hl hs h1 h2 _ ih
    have hlen : (l.take n).length = n := by rw [List.length_take]; omega
    refine ⟨0, rfl, by simp only [hlen]; omega, Btw.nil, by simp only [hlen]; rfl, fun e => ?_, ?_⟩
    · simp only at e
      rw [e] at hlen; simp at hlen; omega
    · simp only [hlen, Nat.zero_add, Nat.add_zero]
      exact ih

/-! The same tokens again. -/
def againT (t : Tok) : B := if t.kind = 5 then [59] else t.text
def outV (ts : List Tok) : B := ts.flatMap fun t => againT t ++ [32]
def Same (ts us : List Tok) : Prop := ts.map (fun t => (t.kind, againT t)) = us.map fun t => (t.kind, t.text)

theorem step_32 (r : B) (may : Bool) : stepV (32 :: r) may = .skip 1 := rfl
theorem step_cut_local {l x : B} {k n : Nat} {may : Bool} (hl : l ≠ []) (hs : stepV l may = .cut (.tok k n)) (hk : k ≠ 5) (may' : Bool) : stepV (l.take n ++ 32 :: x) may' = .cut (.tok k n) := by
  obtain ⟨h1, h2, _⟩ := step_tok hl hs
  cases l with
  | nil => exact absurd rfl hl
  | cons b r =>
    rw [stepV_cons] at hs
    by_cases hb : isBl b = true
    · rw [if_pos hb] at hs; cases hs
    · rw [if_neg hb] at hs
      by_cases hp : [47, 47].isPrefixOf (b :: r) = true
      · rw [if_pos hp] at hs; cases hs
      · rw [if_neg hp] at hs
        by_cases h10 : b = 10
        · rw [if_pos h10] at hs
          cases may
          · cases hs
          · cases hs; exact absurd rfl hk
        · rw [if_neg h10] at hs
          have hc : cutV (b :: r) = .tok k n := by injection hs
          obtain ⟨m, rfl⟩ : ∃ m, n = m + 1 := ⟨n - 1, by omega⟩
          have hp' : ¬ [47, 47].isPrefixOf ((b :: r).take (m + 1) ++ 32 :: x) = true := by
            rw [pfx_ext [47, 47] _ x 32 (by decide)]
            intro hq
            have h3 := List.isPrefixOf_iff_prefix.1 hq
            exact hp (List.isPrefixOf_iff_prefix.2 (h3.trans (List.take_prefix _ _)))
          have hc' : cutV ((b :: r).take (m + 1) ++ 32 :: x) = .tok k (m + 1) := by
            have hlen : ((b :: r).take (m + 1)).length = m + 1 := by rw [List.length_take]; omega
            rw [cutV_cons] at hc
            rw [cutV_ext _ x 32 stop_32 (by simp), List.take_succ_cons, cutV_cons, ← List.take_succ_cons]
            by_cases h59 : b = 59
            · rw [if_pos h59] at hc; cases hc; exact absurd rfl hk
            · rw [if_neg h59] at hc ⊢
              by_cases hd : isDg b = true
              · rw [if_pos hd] at hc ⊢
                unfold numCut at hc
                split at hc
                · cases hc
                · rename_i hno
                  split at hc
                  · cases hc
                  · rename_i hbig
                    have hdn : digV (b :: r) = m + 1 := by injection hc
                    have hk3 : k = 3 := by injection hc with e1 _; exact e1.symm
                    rw [hdn] at hno hbig
                    have e1 : digV ((b :: r).take (m + 1)) = m + 1 := by
                      have := digV_cut (b :: r) [] 32 stop_32
                      rw [digV_ext _ [] 32 stop_32, hdn] at this
                      exact this
                    unfold numCut
                    rw [e1, List.drop_eq_nil_of_le (by omega), List.take_take, Nat.min_self, if_neg, if_neg hbig, hk3]
                    rintro (⟨g1, g2⟩ | g)
                    · refine hno (Or.inl ⟨g1, ?_⟩)
                      rw [List.take_succ_cons] at g2
                      exact g2
                    · exact absurd g (Nat.lt_irrefl _)
              · rw [if_neg hd] at hc ⊢
                by_cases hlt : 0 < letV (b :: r)
                · rw [if_pos hlt] at hc
                  have hwn : wordV (b :: r) = m + 1 := by
                    unfold wordCut at hc
                    split at hc
                    · injection hc
                    · split at hc
                      · cases hc
                      · injection hc
                  have e1 : wordV ((b :: r).take (m + 1)) = m + 1 := by
                    have := wordV_cut _ (b :: r) [] 32 (Nat.le_refl _) stop_32
                    rw [wordV_ext _ _ [] 32 (Nat.le_refl _) stop_32, hwn] at this
                    exact this
                  have e2 : 0 < letV ((b :: r).take (m + 1)) := by
                    have hle : letV (b :: r) ≤ m + 1 := by
                      rw [← hwn, wordV_eq]
                      have : alnV (b :: r) = letV (b :: r) := by unfold alnV; rw [if_neg (by omega)]
                      rw [this, if_neg (by omega)]; omega
                    obtain ⟨q, hq⟩ : ∃ q, m + 1 = letV (b :: r) + q := ⟨m + 1 - letV (b :: r), by omega⟩
                    rw [hq, List.take_add, letV_loc _ _ hlt]
                    exact hlt
                  rw [if_pos e2]
                  unfold wordCut at hc ⊢
                  rw [e1, List.take_take, Nat.min_self]
                  rw [hwn] at hc
                  exact hc
                · rw [if_neg hlt] at hc
                  unfold sigCut at hc
                  split at hc
                  · rename_i z hz
                    obtain ⟨g1, g2⟩ := sig_mem hz
                    have hzn : z.length = m + 1 := by injection hc
                    have hk4 : k = 4 := by injection hc with e1 _; exact e1.symm
                    have hzt : (b :: r).take (m + 1) = z := by
                      rw [← hzn]; exact (List.prefix_iff_eq_take.1 g2).symm
                    rw [hzt]
                    rw [if_neg (by rw [(sigs_head z g1).1]; omega)]
                    unfold sigCut
                    rw [sigs_self z g1, hk4, ← hzn]
                  · cases hc
          rw [List.take_succ_cons, List.cons_append] at hp' hc' ⊢
          rw [stepV_cons, if_neg hb, if_neg hp', if_neg h10, hc']

theorem mayV_five (t : B) : mayV 5 t = false := by simp [mayV]
theorem lx_again : ∀ (l : B) (a : Nat) (may : Bool) (ts : List Tok), lx l a may = (ts, none) → ∀ a', ∃ us, lx (outV ts) a' may = (us, none) ∧ Same ts us := by
  have blank : ∀ (r : B) (a : Nat) (may : Bool), lx (32 :: r) a may = lx r (a + 1) may := fun r a may => by rw [lx_skip (by simp) (step_32 r may)]; rfl
  have line : ∀ (r : B) (a : Nat) (may : Bool), lx (59 :: 32 :: r) a may = (⟨5, [59], a⟩ :: (lx r (a + 2) false).1, (lx r (a + 2) false).2) := fun r a may => by
    rw [lx_tok (k := 5) (n := 1) (by simp) rfl]
    simp only [List.take, List.drop]
    rw [mayV_five, blank]
  refine lx_induct (fun l a may ts => ∀ a', ∃ us, lx (outV ts) a' may = (us, none) ∧ Same ts us) ?_ ?_ ?_
  · intro a may a'
    cases may with
    | false => exact ⟨[], rfl, rfl⟩
    | true => exact ⟨_, line [] a' true, rfl⟩
  · intro l a may n ts hl hs _ _ _ ih a'
    exact ih a'
  · intro l a may k n ts hl hs h1 h2 _ ih a'
    have e : outV (⟨k, l.take n, a⟩ :: ts) = (if k = 5 then [59] else l.take n) ++ 32 :: outV ts := by
      simp [outV, againT]
    by_cases hk : k = 5
    · subst hk
      rw [mayV_five] at ih
      obtain ⟨us, g1, g2⟩ := ih (a' + 2)
      rw [e, if_pos rfl]
      refine ⟨⟨5, [59], a'⟩ :: us, ?_, ?_⟩
      · show lx (59 :: 32 :: outV ts) a' may = _
        rw [line, g1]
      · unfold Same at g2 ⊢
        rw [List.map_cons, List.map_cons, g2]; rfl
    · have hst := step_cut_local (x := outV ts) hl hs hk may
      have hlen : (l.take n).length = n := by rw [List.length_take]; omega
      obtain ⟨us, g1, g2⟩ := ih (a' + n + 1)
      rw [e, if_neg hk]
      refine ⟨⟨k, l.take n, a'⟩ :: us, ?_, ?_⟩
      · rw [lx_tok (by simp) hst]
        rw [List.take_left' hlen, List.drop_left' hlen, blank, g1]
      · unfold Same at g2 ⊢
        rw [List.map_cons, List.map_cons, g2]
        simp [againT, hk]
end Lx
end Go.Proofs.YtgonbmcojjcabaaGreatDoor

namespace Go.Proofs.YtgonbmcojjcabaaGreatDoor
namespace Lx

/-! Line by line. -/
def fixL : List Tok → List Tok
  | [] => []
  | [t] => if t.text = [] then [⟨t.kind, [10], t.at_⟩] else [t]
  | t :: u :: r => t :: fixL (u :: r)
def shiftT (d : Nat) (ts : List Tok) : List Tok := ts.map fun t => ⟨t.kind, t.text, t.at_ + d⟩
theorem fixL_cons {t : Tok} (h : t.text ≠ []) (ts : List Tok) : fixL (t :: ts) = t :: fixL ts := by
  cases ts with
  | nil => simp [fixL, h]
  | cons u r => rfl
theorem lx_shift (d : Nat) : ∀ l a may ts, lx l a may = (ts, none) → lx l (a + d) may = (shiftT d ts, none) := by
  refine lx_induct (fun l a may ts => lx l (a + d) may = (shiftT d ts, none)) ?_ ?_ ?_
  · intro a may
    rw [lx_nil]
    cases may <;> rfl
  · intro l a may n ts hl hs _ _ _ ih
    rw [lx_skip hl hs, show a + d + n = a + n + d by omega, ih]
  · intro l a may k n ts hl hs _ _ _ ih
    rw [lx_tok hl hs, show a + d + n = a + n + d by omega, ih]
    rfl
theorem lx_pieces (q : B) (tq : List Tok) (hq : lx q 0 false = (tq, none)) : ∀ p a may tp, lx p a may = (tp, none) → lx (p ++ 10 :: q) a may = (fixL tp ++ shiftT (a + p.length + 1) tq, none) := by
  have hsh : ∀ a, lx q a false = (shiftT a tq, none) := fun a => by
    have := lx_shift a q 0 false tq hq
    rw [Nat.zero_add] at this
    exact this
  refine lx_induct (fun p a may tp => lx (p ++ 10 :: q) a may = (fixL tp ++ shiftT (a + p.length + 1) tq, none)) ?_ ?_ ?_
  · intro a may
    cases may with
    | false =>
      rw [List.nil_append, lx_skip (n := 1) (by simp) rfl]
      exact hsh (a + 1)
    | true =>
      rw [List.nil_append, lx_tok (k := 5) (n := 1) (by simp) rfl]
      simp only [List.take, List.drop]
      rw [mayV_five, hsh]
      rfl
  · intro l a may n ts hl hs h1 h2 _ ih
    rw [lx_skip (by simp) (by rw [step_ext l q may hl]; exact hs), List.drop_append_of_le_length h2, ih, List.length_drop, show a + n + (l.length - n) + 1 = a + l.length + 1 by omega]
  · intro l a may k n ts hl hs h1 h2 _ ih
    have hne : l.take n ≠ [] := by
      intro e
      have h3 : (l.take n).length = 0 := by rw [e]; rfl
      rw [List.length_take] at h3
      omega
    rw [lx_tok (by simp) (by rw [step_ext l q may hl]; exact hs), List.drop_append_of_le_length h2, List.take_append_of_le_length h2, ih, List.length_drop, show a + n + (l.length - n) + 1 = a + l.length + 1 by omega, fixL_cons hne]
    rfl

/-! However many blanks. -/
def blindV (y : B) (l : B) : B := l.flatMap fun b => if b = 32 then y else [b]
theorem blind_nil (y : B) : blindV y [] = [] := rfl
theorem blind_32 (y r : B) : blindV y (32 :: r) = y ++ blindV y r := rfl
theorem blind_cons (y r : B) {b : UInt8} (h : b ≠ 32) : blindV y (b :: r) = b :: blindV y r := by simp [blindV, h]
theorem blind_append (y l r : B) : blindV y (l ++ r) = blindV y l ++ blindV y r := by simp [blindV]
theorem blind_none (y : B) : ∀ u : B, 32 ∉ u → blindV y u = u := by
  intro u
  induction u with
  | nil => intro _; rfl
  | cons b r ih =>
    intro h
    rw [blind_cons y r (fun e => h (by rw [e]; exact List.mem_cons_self ..)), ih fun e => h (List.mem_cons_of_mem _ e)]
/-- A text up to its first blank. -/
theorem blind_split (z : B) : ∀ l : B, ∃ u, 32 ∉ u ∧ ((l = u ∧ blindV (32 :: z) l = u) ∨ (∃ x y, l = u ++ 32 :: x ∧ blindV (32 :: z) l = u ++ 32 :: y)) := by
  intro l
  induction l with
  | nil => exact ⟨[], by simp, Or.inl ⟨rfl, rfl⟩⟩
  | cons b r ih =>
    by_cases hb : b = 32
    · subst hb
      exact ⟨[], by simp, Or.inr ⟨r, z ++ blindV (32 :: z) r, rfl, by rw [blind_32]; rfl⟩⟩
    · obtain ⟨u, h1, h2⟩ := ih
      refine ⟨b :: u, fun h => by rcases List.mem_cons.1 h with h | h; exact hb h.symm; exact h1 h, ?_⟩
      rw [blind_cons _ r hb]
      rcases h2 with ⟨g1, g2⟩ | ⟨x, y, g1, g2⟩
      · exact Or.inl ⟨by rw [g1], by rw [g2]⟩
      · exact Or.inr ⟨x, y, by rw [g1]; rfl, by rw [g2]; rfl⟩
theorem blind_pfx (z l : B) : [47, 47].isPrefixOf (blindV (32 :: z) l) = [47, 47].isPrefixOf l := by
  obtain ⟨u, h1, ⟨g1, g2⟩ | ⟨x, y, g1, g2⟩⟩ := blind_split z l
  · rw [g2, g1]
  · rw [g2, g1, pfx_ext _ u _ 32 (by decide), pfx_ext _ u _ 32 (by decide)]
theorem blind_cut (z : B) (b : UInt8) (r : B) (hb : b ≠ 32) : cutV (blindV (32 :: z) (b :: r)) = cutV (b :: r) ∧ ∀ k n, cutV (b :: r) = .tok k n → 32 ∉ (b :: r).take n := by
  obtain ⟨u, h1, h2⟩ := blind_split z (b :: r)
  rcases h2 with ⟨g1, g2⟩ | ⟨x, y, g1, g2⟩
  · rw [g2, g1]
    exact ⟨rfl, fun k n _ h => h1 ((List.take_subset n u) h)⟩
  · have hu : u ≠ [] := fun e => by rw [e] at g1; injection g1 with e1 _; exact hb e1
    rw [g2, g1, cutV_ext u _ 32 stop_32 hu, cutV_ext u _ 32 stop_32 hu]
    refine ⟨rfl, fun k n hc h => h1 ?_⟩
    have := (cutV_tok hc).2.1
    rw [List.take_append_of_le_length this] at h
    exact (List.take_subset n u) h
theorem blind_line (z : B) (hz : ∀ b ∈ z, isBl b = true) : ∀ l : B, lineV (blindV (32 :: z) l) = (blindV (32 :: z) (l.take (lineV l))).length := by
  have nb : ∀ (y r : B), (∀ b ∈ y, isBl b = true) → lineV (y ++ r) = y.length + lineV r := by
    intro y
    induction y with
    | nil => intro r _; simp
    | cons b y ih =>
      intro r h
      have hb := h b (List.mem_cons_self ..)
      have h10 : b ≠ 10 := fun e => by rw [e] at hb; cases hb
      have e : lineV (b :: (y ++ r)) = lineV (y ++ r) + 1 := by unfold lineV; rw [List.takeWhile_cons_of_pos (by simpa using h10)]; rfl
      rw [List.cons_append, e, ih r fun c hc => h c (List.mem_cons_of_mem _ hc), List.length_cons]; omega
  intro l
  induction l with
  | nil => rfl
  | cons b r ih =>
    by_cases h10 : b = 10
    · subst h10
      rw [blind_cons _ r (by decide)]
      rfl
    · have e : ∀ r : B, lineV (b :: r) = lineV r + 1 := fun r => by unfold lineV; rw [List.takeWhile_cons_of_pos (by simpa using h10)]; rfl
      by_cases h32 : b = 32
      · subst h32
        rw [e, List.take_succ_cons, blind_32, blind_32, nb _ _ (fun b hb => by rcases List.mem_cons.1 hb with rfl | hb; rfl; exact hz b hb), ih, List.length_append]
      · rw [e, List.take_succ_cons, blind_cons _ _ h32, blind_cons _ _ h32, e, ih, List.length_cons]

/-- The same kinds and texts, and the same error. -/
def Alike (r r' : List Tok × Option (Nat × Nat)) : Prop := r.1.map (fun t => (t.kind, t.text)) = r'.1.map (fun t => (t.kind, t.text)) ∧ r.2.map Prod.fst = r'.2.map Prod.fst
theorem lx_blanks : ∀ (y r : B) (a : Nat) (may : Bool), (∀ b ∈ y, isBl b = true) → lx (y ++ r) a may = lx r (a + y.length) may := by
  intro y
  induction y with
  | nil => intro r a may _; rfl
  | cons b y ih =>
    intro r a may h
    have hb := h b (List.mem_cons_self ..)
    have hs : stepV (b :: (y ++ r)) may = .skip 1 := by rw [stepV_cons, if_pos hb]
    rw [List.cons_append, lx_skip (by simp) hs]
    simp only [List.drop]
    rw [ih r (a + 1) may fun c hc => h c (List.mem_cons_of_mem _ hc), List.length_cons, show a + 1 + y.length = a + (y.length + 1) by omega]

theorem lx_blind (z : B) (hz : ∀ b ∈ z, isBl b = true) : ∀ (m : Nat) (l : B), l.length ≤ m → ∀ (a a' : Nat) (may : Bool), Alike (lx l a may) (lx (blindV (32 :: z) l) a' may) := by
  have hy : ∀ b ∈ (32 :: z : B), isBl b = true := fun b hb => by rcases List.mem_cons.1 hb with rfl | hb; rfl; exact hz b hb
  intro m
  induction m with
  | zero =>
    intro l hl a a' may
    rw [List.eq_nil_of_length_eq_zero (by omega : l.length = 0), blind_nil, lx_nil, lx_nil]
    cases may
    · exact ⟨rfl, rfl⟩
    · exact ⟨rfl, rfl⟩
  | succ m ih =>
    intro l hl a a' may
    cases l with
    | nil =>
      rw [blind_nil, lx_nil, lx_nil]
      cases may
      · exact ⟨rfl, rfl⟩
      · exact ⟨rfl, rfl⟩
    | cons b r =>
      rw [List.length_cons] at hl
      by_cases hb : isBl b = true
      · have hs : ∀ r, stepV (b :: r) may = .skip 1 := fun r => by rw [stepV_cons, if_pos hb]
        rw [lx_skip (by simp) (hs r)]
        simp only [List.drop]
        by_cases h32 : b = 32
        · subst h32
          rw [blind_32, lx_blanks _ _ _ _ hy]
          exact ih r (by omega) _ _ _
        · rw [blind_cons _ r h32, lx_skip (by simp) (hs _)]
          simp only [List.drop]
          exact ih r (by omega) _ _ _
      · have h32 : b ≠ 32 := fun e => hb (by rw [e]; rfl)
        have hp := blind_pfx z (b :: r)
        by_cases hpp : [47, 47].isPrefixOf (b :: r) = true
        · have hs : stepV (b :: r) may = .skip (lineV (b :: r)) := by rw [stepV_cons, if_neg hb, if_pos hpp]
          have hs' : stepV (blindV (32 :: z) (b :: r)) may = .skip (lineV (blindV (32 :: z) (b :: r))) := by
            rw [hpp] at hp
            rw [blind_cons _ r h32] at hp ⊢
            rw [stepV_cons, if_neg hb, if_pos hp]
          have h2 := lineV_two hpp
          have hd : (blindV (32 :: z) (b :: r)).drop (lineV (blindV (32 :: z) (b :: r))) = blindV (32 :: z) ((b :: r).drop (lineV (b :: r))) := by
            rw [blind_line z hz]
            conv => lhs; arg 2; rw [← List.take_append_drop (lineV (b :: r)) (b :: r), blind_append]
            exact List.drop_left' rfl
          rw [lx_skip (by simp) hs, lx_skip (by rw [blind_cons _ r h32]; simp) hs', hd]
          exact ih _ (by rw [List.length_drop, List.length_cons]; omega) _ _ _
        · have hpp' : ¬ [47, 47].isPrefixOf (b :: blindV (32 :: z) r) = true := by
            rw [blind_cons _ r h32] at hp
            rw [hp]; exact hpp
          by_cases h10 : b = 10
          · subst h10
            rw [blind_cons _ r h32]
            cases may with
            | false =>
              have hs : ∀ r, stepV (10 :: r) false = .skip 1 := fun r => rfl
              rw [lx_skip (by simp) (hs _), lx_skip (by simp) (hs _)]
              exact ih r (by omega) _ _ _
            | true =>
              have hs : ∀ r, stepV (10 :: r) true = .cut (.tok 5 1) := fun r => rfl
              rw [lx_tok (by simp) (hs _), lx_tok (by simp) (hs _)]
              simp only [List.take, List.drop]
              obtain ⟨g1, g2⟩ := ih r (by omega) (a + 1) (a' + 1) (mayV 5 [10])
              exact ⟨by simp only [List.map_cons]; rw [g1], g2⟩
          · obtain ⟨hc1, hc2⟩ := blind_cut z b r h32
            have hs : stepV (b :: r) may = .cut (cutV (b :: r)) := by rw [stepV_cons, if_neg hb, if_neg hpp, if_neg h10]
            have hs' : stepV (blindV (32 :: z) (b :: r)) may = .cut (cutV (b :: r)) := by
              rw [blind_cons _ r h32] at hc1 ⊢
              rw [stepV_cons, if_neg hb, if_neg hpp', if_neg h10, hc1]
            have hne : blindV (32 :: z) (b :: r) ≠ [] := by rw [blind_cons _ r h32]; simp
            cases hc : cutV (b :: r) with
            | err e =>
              rw [hc] at hs hs'
              rw [lx_err (by simp) hs, lx_err hne hs']
              exact ⟨rfl, rfl⟩
            | tok k n =>
              rw [hc] at hs hs'
              have h3 := cutV_tok hc
              have hn := blind_none (32 :: z) _ (hc2 k n hc)
              have hsp : blindV (32 :: z) (b :: r) = (b :: r).take n ++ blindV (32 :: z) ((b :: r).drop n) := by
                conv => lhs; rw [← List.take_append_drop n (b :: r), blind_append, hn]
              have hlen : ((b :: r).take n).length = n := by rw [List.length_take]; omega
              rw [lx_tok (by simp) hs, lx_tok hne hs', hsp, List.take_left' hlen, List.drop_left' hlen]
              obtain ⟨g1, g2⟩ := ih ((b :: r).drop n) (by rw [List.length_drop, List.length_cons]; omega) (a + n) (a' + n) (mayV k ((b :: r).take n))
              exact ⟨by simp only [List.map_cons]; rw [g1], g2⟩
end Lx
end Go.Proofs.YtgonbmcojjcabaaGreatDoor

namespace Go.Proofs.YtgonbmcojjcabaaGreatDoor
namespace Tr
open Lx

theorem toks_empty : ∀ (l : B) (a : Nat) (may : Bool) (ts : List Tok), lx l a may = (ts, none) → ∀ t ∈ ts, t.text = [] → t.kind = 5 := by
  refine lx_induct (fun _ _ _ ts => ∀ t ∈ ts, t.text = [] → t.kind = 5) ?_ ?_ ?_
  · intro a may t ht _
    unfold endV at ht
    split at ht
    · simp at ht; subst ht; rfl
    · cases ht
  · intro l a may n ts _ _ _ _ _ ih
    exact ih
  · intro l a may k n ts hl hs h1 h2 _ ih t ht he
    rcases List.mem_cons.1 ht with rfl | ht
    · have e' : l.take n = [] := he
      have : (l.take n).length = 0 := by rw [e']; rfl
      rw [List.length_take] at this
      omega
    · exact ih t ht he
theorem fixL_at : ∀ (ts : List Tok) (n : Nat) (t : Tok), ts[n]? = some t → ∃ t', (fixL ts)[n]? = some t' ∧ t'.kind = t.kind ∧ (t'.text = t.text ∨ (t.text = [] ∧ t'.text = [10]))
  | [], _, _, h => by cases h
  | [u], n, t, h => by
    cases n with
    | zero =>
      cases h
      unfold fixL
      split
      · rename_i hu
        exact ⟨_, rfl, rfl, Or.inr ⟨hu, rfl⟩⟩
      · exact ⟨_, rfl, rfl, Or.inl rfl⟩
    | succ n => cases h
  | u :: v :: r, n, t, h => by
    cases n with
    | zero => cases h; exact ⟨_, rfl, rfl, Or.inl rfl⟩
    | succ n => exact fixL_at (v :: r) n t h
theorem fixL_len : ∀ ts : List Tok, (fixL ts).length = ts.length
  | [] => rfl
  | [u] => by unfold fixL; split <;> rfl
  | u :: v :: r => congrArg (· + 1) (fixL_len (v :: r))

theorem agr_first {ta tb : List Tok} {ea ez d : Nat} (he : ∀ t ∈ ta, t.text = [] → t.kind = 5) : Agr ⟨ta, ea⟩ ⟨fixL ta ++ shiftT d tb, ez⟩ 0 ta.length := by
  have key : ∀ n, n < ta.length → ∃ t t' : Tok, ta[n]? = some t ∧ pk ⟨ta, ea⟩ n = t ∧ pk ⟨fixL ta ++ shiftT d tb, ez⟩ (0 + n) = t' ∧ t'.kind = t.kind ∧ (t'.text = t.text ∨ (t.text = [] ∧ t'.text = [10])) := fun n hn => by
    have h1 : ta[n]? = some ta[n] := List.getElem?_eq_getElem hn
    obtain ⟨t', h2, h3, h4⟩ := fixL_at ta n _ h1
    refine ⟨ta[n], t', h1, by unfold pk; rw [h1]; rfl, ?_, h3, h4⟩
    unfold pk
    rw [Nat.zero_add, List.getElem?_append_left (by rw [fixL_len]; exact hn), h2]
    rfl
  refine ⟨fun n hn => ?_, fun n hn => ?_⟩
  · obtain ⟨t, t', h1, h2, h3, h4, h5⟩ := key n hn
    rw [h2, h3]; exact h4
  · obtain ⟨t, t', h1, h2, h3, h4, h5⟩ := key n hn
    rw [h2, h3]
    rcases h5 with h5 | ⟨h5, h6⟩
    · exact Or.inl h5
    · exact Or.inr ⟨he t (List.mem_of_getElem? h1) h5, h5, h6⟩
theorem agr_second {ta tb : List Tok} {eb ez d : Nat} : Agr ⟨tb, eb⟩ ⟨fixL ta ++ shiftT d tb, ez⟩ ta.length tb.length := by
  have key : ∀ n, n < tb.length → (pk ⟨fixL ta ++ shiftT d tb, ez⟩ (ta.length + n)).kind = (pk ⟨tb, eb⟩ n).kind ∧ (pk ⟨fixL ta ++ shiftT d tb, ez⟩ (ta.length + n)).text = (pk ⟨tb, eb⟩ n).text := fun n hn => by
    have h1 : tb[n]? = some tb[n] := List.getElem?_eq_getElem hn
    have h2 : (fixL ta ++ shiftT d tb)[ta.length + n]? = some ⟨tb[n].kind, tb[n].text, tb[n].at_ + d⟩ := by
      rw [List.getElem?_append_right (by rw [fixL_len]; omega), fixL_len, Nat.add_sub_cancel_left]
      unfold shiftT
      rw [List.getElem?_map, h1]
      rfl
    unfold pk
    rw [h1, h2]
    exact ⟨rfl, rfl⟩
  exact ⟨fun n hn => (key n hn).1, fun n hn => Or.inl (key n hn).2⟩

/-- Two programs in one text are both. -/
theorem pieces {ta tb : List Tok} {ea eb ez d ma mb : Nat} {sa sb : Src} {r : Res Src} (he : ∀ t ∈ ta, t.text = [] → t.kind = 5) (ha : Ev (fun f => Tr.program ⟨ta, ea⟩ f ⟨[], []⟩ 0) (.ok sa ma)) (hb : Ev (fun f => Tr.program ⟨tb, eb⟩ f ⟨[], []⟩ 0) (.ok sb mb))
    (hg : sa.globals.length + sb.globals.length ≤ 8) (hf : sa.funcs.length + sb.funcs.length ≤ 12) (hz : Ev (fun f => Tr.program ⟨fixL ta ++ shiftT d tb, ez⟩ f ⟨[], []⟩ 0) r) :
    ∃ s m, r = .ok s m ∧ s.globals.map glE = (sa.globals ++ sb.globals).map glE ∧ s.funcs.map fuE = (sa.funcs ++ sb.funcs).map fuE := by
  obtain ⟨_, fa, ha⟩ := ha
  obtain ⟨_, fb, hb⟩ := hb
  obtain ⟨_, fz, hz⟩ := hz
  obtain ⟨F, h1, h2, h3⟩ : ∃ F, fa ≤ F ∧ fz ≤ F ∧ fb + ta.length ≤ F := ⟨fa + fz + fb + ta.length, by omega, by omega, by omega⟩
  have ha := ha F h1
  have hz := hz F h2
  have hzl : (fixL ta ++ shiftT d tb).length = ta.length + tb.length := by
    unfold shiftT; rw [List.length_append, fixL_len, List.length_map]
  obtain ⟨gs, gs', fs, fs', j, d1, d2, d3, d4, d5, d6, d7⟩ := ag_program (agr_first (tb := tb) (ez := ez) (d := d) he) (fun n hn => by show 0 + n < (fixL ta ++ shiftT d tb).length; have h : n < ta.length := hn; omega) F F ⟨[], []⟩ ⟨[], []⟩ 0 sa ma (Nat.le_refl _) ha (Nat.zero_le _) (by simp; omega) (by simp; omega)
  have d1' : ma = ta.length := d1
  have d2' : j + 0 ≤ ta.length := d2
  subst d4
  have hb := hb (F - j) (by omega)
  have lg : gs'.length = gs.length := by have := congrArg List.length d5; simpa using this
  have lf : fs'.length = fs.length := by have := congrArg List.length d6; simpa using this
  obtain ⟨gs2, gs2', fs2, fs2', j2, c1, c2, c3, c4, c5, c6, c7⟩ := ag_program (agr_second (ta := ta) (ez := ez) (d := d)) (fun n hn => by show ta.length + n < (fixL ta ++ shiftT d tb).length; have h : n < tb.length := hn; omega) (F - j) (F - j) ⟨[], []⟩ ⟨gs', fs'⟩ 0 sb mb (Nat.le_refl _) hb (Nat.zero_le _) (by simp at hg ⊢; omega) (by simp at hf ⊢; omega)
  have c1' : mb = tb.length := c1
  subst c4
  have hz' : Tr.program ⟨fixL ta ++ shiftT d tb, ez⟩ F ⟨[], []⟩ (0 + 0) = r := hz
  rw [d7, d1'] at hz'
  rw [show (0 : Nat) + ta.length = ta.length + 0 by omega] at hz'
  have hz2 : Tr.program ⟨fixL ta ++ shiftT d tb, ez⟩ (F - j) ⟨gs', fs'⟩ (ta.length + 0) = r := hz'
  rw [c7, show F - j - j2 = (F - j - j2 - 1) + 1 by omega, programQ_eq, if_pos (by show (fixL ta ++ shiftT d tb).length ≤ _; omega)] at hz2
  refine ⟨_, _, hz2.symm, ?_, ?_⟩
  · show (gs' ++ gs2').map glE = (([] ++ gs) ++ ([] ++ gs2)).map glE
    rw [List.map_append, d5, c5]; simp
  · show (fs' ++ fs2').map fuE = (([] ++ fs) ++ ([] ++ fs2)).map fuE
    rw [List.map_append, d6, c6]; simp
/-- What is read in some steps is read in more, but for the places (which are the same; it isn't asked). -/
theorem program_more {ts : List Tok} {e F m : Nat} {s : Src} {r : Res Src} (h : Tr.program ⟨ts, e⟩ F ⟨[], []⟩ 0 = .ok s m) (hg : s.globals.length ≤ 8) (hf : s.funcs.length ≤ 12) (hr : Ev (fun f => Tr.program ⟨ts, e⟩ f ⟨[], []⟩ 0) r) :
    ∃ s' m', r = .ok s' m' ∧ s'.globals.map glE = s.globals.map glE ∧ s'.funcs.map fuE = s.funcs.map fuE := by
  obtain ⟨_, f0, hr⟩ := hr
  have A : Agr ⟨ts, e⟩ ⟨ts, e⟩ 0 (⟨ts, e⟩ : Env).toks.length := ⟨fun n _ => by rw [Nat.zero_add], fun n _ => Or.inl (by rw [Nat.zero_add])⟩
  obtain ⟨gs, gs', fs, fs', j, d1, d2, d3, d4, d5, d6, d7⟩ := ag_program A (fun n hn => by rw [Nat.zero_add]; exact hn) F (F + f0) ⟨[], []⟩ ⟨[], []⟩ 0 s m (by omega) h (Nat.zero_le _) (by simp; omega) (by simp; omega)
  have hr := hr (F + f0) (by omega)
  have hr' : Tr.program ⟨ts, e⟩ (F + f0) ⟨[], []⟩ (0 + 0) = r := hr
  rw [d7, show F + f0 - j = (F + f0 - j - 1) + 1 by omega, programQ_eq, if_pos (by omega)] at hr'
  subst d4
  exact ⟨_, _, hr'.symm, by simpa using d5, by simpa using d6⟩
end Tr
end Go.Proofs.YtgonbmcojjcabaaGreatDoor
