/-
  Tokens, as chapter 7 has them: what the laws say of them, second part: line by line; however many blanks.
-/
import Derived.Test.YtgmdnkhlkabaiaaGreatDoorLexM3
namespace Go.Proofs.YtgmdnkhlkabaiaaGreatDoor
namespace Lx

/-! Line by line. -/
def fixL : List Tok → List Tok
  | [] => []
  | [t] => if t.text = [] then [⟨t.kind, [10], t.at_⟩] else [t]
  | t :: u :: r => t :: fixL (u :: r)
def shiftT (d : Nat) (ts : List Tok) : List Tok := ts.map fun t => ⟨t.kind, t.text, t.at_ + d⟩
theorem fixL_cons {t : Tok} (h : t.text ≠ []) (ts : List Tok) : fixL (t :: ts) = t :: fixL ts := by
  cases ts with
  | nil => simp [fixL, h]
  | cons u r => rfl
theorem lx_shift (d : Nat) : ∀ l a may ts, lx l a may = (ts, none) → lx l (a + d) may = (shiftT d ts, none) := by
  refine lx_induct (fun l a may ts => lx l (a + d) may = (shiftT d ts, none)) ?_ ?_ ?_
  · intro a may
    rw [lx_nil]
    cases may <;> rfl
  · intro l a may n ts hl hs _ _ _ ih
    rw [lx_skip hl hs, show a + d + n = a + n + d by omega, ih]
  · intro l a may k n ts hl hs _ _ _ ih
    rw [lx_tok hl hs, show a + d + n = a + n + d by omega, ih]
    rfl
theorem lx_pieces (q : B) (tq : List Tok) (hq : lx q 0 false = (tq, none)) : ∀ p a may tp, lx p a may = (tp, none) → lx (p ++ 10 :: q) a may = (fixL tp ++ shiftT (a + p.length + 1) tq, none) := by
  have hsh : ∀ a, lx q a false = (shiftT a tq, none) := fun a => by
    have := lx_shift a q 0 false tq hq
    rw [Nat.zero_add] at this
    exact this
  refine lx_induct (fun p a may tp => lx (p ++ 10 :: q) a may = (fixL tp ++ shiftT (a + p.length + 1) tq, none)) ?_ ?_ ?_
  · intro a may
    cases may with
    | false =>
      rw [List.nil_append, lx_skip (n := 1) (by simp) rfl]
      exact hsh (a + 1)
    | true =>
      rw [List.nil_append, lx_tok (k := 5) (n := 1) (by simp) rfl]
      simp only [List.take, List.drop]
      rw [mayV_five, hsh]
      rfl
  · intro l a may n ts hl hs h1 h2 _ ih
    rw [lx_skip (by simp) (by rw [step_ext l q may hl]; exact hs), List.drop_append_of_le_length h2, ih, List.length_drop, show a + n + (l.length - n) + 1 = a + l.length + 1 by omega]
  · intro l a may k n ts hl hs h1 h2 _ ih
    have hne : l.take n ≠ [] := by
      intro e
      have h3 : (l.take n).length = 0 := by rw [e]; rfl
      rw [List.length_take] at h3
      omega
    rw [lx_tok (by simp) (by rw [step_ext l q may hl]; exact hs), List.drop_append_of_le_length h2, List.take_append_of_le_length h2, ih, List.length_drop, show a + n + (l.length - n) + 1 = a + l.length + 1 by omega, fixL_cons hne]
    rfl

/-! However many blanks. -/
def blindV (y : B) (l : B) : B := l.flatMap fun b => if b = 32 then y else [b]
theorem blind_nil (y : B) : blindV y [] = [] := rfl
theorem blind_32 (y r : B) : blindV y (32 :: r) = y ++ blindV y r := rfl
theorem blind_cons (y r : B) {b : UInt8} (h : b ≠ 32) : blindV y (b :: r) = b :: blindV y r := by simp [blindV, h]
theorem blind_append (y l r : B) : blindV y (l ++ r) = blindV y l ++ blindV y r := by simp [blindV]
theorem blind_none (y : B) : ∀ u : B, 32 ∉ u → blindV y u = u := by
  intro u
  induction u with
  | nil => intro _; rfl
  | cons b r ih =>
    intro h
    rw [blind_cons y r (fun e => h (by rw [e]; exact List.mem_cons_self ..)), ih fun e => h (List.mem_cons_of_mem _ e)]
/-- A text up to its first blank. -/
theorem blind_split (z : B) : ∀ l : B, ∃ u, 32 ∉ u ∧ ((l = u ∧ blindV (32 :: z) l = u) ∨ (∃ x y, l = u ++ 32 :: x ∧ blindV (32 :: z) l = u ++ 32 :: y)) := by
  intro l
  induction l with
  | nil => exact ⟨[], by simp, Or.inl ⟨rfl, rfl⟩⟩
  | cons b r ih =>
    by_cases hb : b = 32
    · subst hb
      exact ⟨[], by simp, Or.inr ⟨r, z ++ blindV (32 :: z) r, rfl, by rw [blind_32]; rfl⟩⟩
    · obtain ⟨u, h1, h2⟩ := ih
      refine ⟨b :: u, fun h => by rcases List.mem_cons.1 h with h | h; exact hb h.symm; exact h1 h, ?_⟩
      rw [blind_cons _ r hb]
      rcases h2 with ⟨g1, g2⟩ | ⟨x, y, g1, g2⟩
      · exact Or.inl ⟨by rw [g1], by rw [g2]⟩
      · exact Or.inr ⟨x, y, by rw [g1]; rfl, by rw [g2]; rfl⟩
theorem blind_pfx (z l : B) : [47, 47].isPrefixOf (blindV (32 :: z) l) = [47, 47].isPrefixOf l := by
  obtain ⟨u, h1, ⟨g1, g2⟩ | ⟨x, y, g1, g2⟩⟩ := blind_split z l
  · rw [g2, g1]
  · rw [g2, g1, pfx_ext _ u _ 32 (by decide), pfx_ext _ u _ 32 (by decide)]
theorem blind_cut (z : B) (b : UInt8) (r : B) (hb : b ≠ 32) : cutV (blindV (32 :: z) (b :: r)) = cutV (b :: r) ∧ ∀ k n, cutV (b :: r) = .tok k n → 32 ∉ (b :: r).take n := by
  obtain ⟨u, h1, h2⟩ := blind_split z (b :: r)
  rcases h2 with ⟨g1, g2⟩ | ⟨x, y, g1, g2⟩
  · rw [g2, g1]
    exact ⟨rfl, fun k n _ h => h1 ((List.take_subset n u) h)⟩
  · have hu : u ≠ [] := fun e => by rw [e] at g1; injection g1 with e1 _; exact hb e1
    rw [g2, g1, cutV_ext u _ 32 stop_32 hu, cutV_ext u _ 32 stop_32 hu]
    refine ⟨rfl, fun k n hc h => h1 ?_⟩
    have := (cutV_tok hc).2.1
    rw [List.take_append_of_le_length this] at h
    exact (List.take_subset n u) h
theorem blind_line (z : B) (hz : ∀ b ∈ z, isBl b = true) : ∀ l : B, lineV (blindV (32 :: z) l) = (blindV (32 :: z) (l.take (lineV l))).length := by
  have nb : ∀ (y r : B), (∀ b ∈ y, isBl b = true) → lineV (y ++ r) = y.length + lineV r := by
    intro y
    induction y with
    | nil => intro r _; simp
    | cons b y ih =>
      intro r h
      have hb := h b (List.mem_cons_self ..)
      have h10 : b ≠ 10 := fun e => by rw [e] at hb; cases hb
      have e : lineV (b :: (y ++ r)) = lineV (y ++ r) + 1 := by unfold lineV; rw [List.takeWhile_cons_of_pos (by simpa using h10)]; rfl
      rw [List.cons_append, e, ih r fun c hc => h c (List.mem_cons_of_mem _ hc), List.length_cons]; omega
  intro l
  induction l with
  | nil => rfl
  | cons b r ih =>
    by_cases h10 : b = 10
    · subst h10
      rw [blind_cons _ r (by decide)]
      rfl
    · have e : ∀ r : B, lineV (b :: r) = lineV r + 1 := fun r => by unfold lineV; rw [List.takeWhile_cons_of_pos (by simpa using h10)]; rfl
      by_cases h32 : b = 32
      · subst h32
        rw [e, List.take_succ_cons, blind_32, blind_32, nb _ _ (fun b hb => by rcases List.mem_cons.1 hb with rfl | hb; rfl; exact hz b hb), ih, List.length_append]
      · rw [e, List.take_succ_cons, blind_cons _ _ h32, blind_cons _ _ h32, e, ih, List.length_cons]

/-- The same kinds and texts, and the same error. -/
def Alike (r r' : List Tok × Option (Nat × Nat)) : Prop := r.1.map (fun t => (t.kind, t.text)) = r'.1.map (fun t => (t.kind, t.text)) ∧ r.2.map Prod.fst = r'.2.map Prod.fst
theorem lx_blanks : ∀ (y r : B) (a : Nat) (may : Bool), (∀ b ∈ y, isBl b = true) → lx (y ++ r) a may = lx r (a + y.length) may := by
  intro y
  induction y with
  | nil => intro r a may _; rfl
  | cons b y ih =>
    intro r a may h
    have hb := h b (List.mem_cons_self ..)
    have hs : stepV (b :: (y ++ r)) may = .skip 1 := by rw [stepV_cons, if_pos hb]
    rw [List.cons_append, lx_skip (by simp) hs]
    simp only [List.drop]
    rw [ih r (a + 1) may fun c hc => h c (List.mem_cons_of_mem _ hc), List.length_cons, show a + 1 + y.length = a + (y.length + 1) by omega]

theorem lx_blind (z : B) (hz : ∀ b ∈ z, isBl b = true) : ∀ (m : Nat) (l : B), l.length ≤ m → ∀ (a a' : Nat) (may : Bool), Alike (lx l a may) (lx (blindV (32 :: z) l) a' may) := by
  have hy : ∀ b ∈ (32 :: z : B), isBl b = true := fun b hb => by rcases List.mem_cons.1 hb with rfl | hb; rfl; exact hz b hb
  intro m
  induction m with
  | zero =>
    intro l hl a a' may
    rw [List.eq_nil_of_length_eq_zero (by omega : l.length = 0), blind_nil, lx_nil, lx_nil]
    cases may
    · exact ⟨rfl, rfl⟩
    · exact ⟨rfl, rfl⟩
  | succ m ih =>
    intro l hl a a' may
    cases l with
    | nil =>
      rw [blind_nil, lx_nil, lx_nil]
      cases may
      · exact ⟨rfl, rfl⟩
      · exact ⟨rfl, rfl⟩
    | cons b r =>
      rw [List.length_cons] at hl
      by_cases hb : isBl b = true
      · have hs : ∀ r, stepV (b :: r) may = .skip 1 := fun r => by rw [stepV_cons, if_pos hb]
        rw [lx_skip (by simp) (hs r)]
        simp only [List.drop]
        by_cases h32 : b = 32
        · subst h32
          rw [blind_32, lx_blanks _ _ _ _ hy]
          exact ih r (by omega) _ _ _
        · rw [blind_cons _ r h32, lx_skip (by simp) (hs _)]
          simp only [List.drop]
          exact ih r (by omega) _ _ _
      · have h32 : b ≠ 32 := fun e => hb (by rw [e]; rfl)
        have hp := blind_pfx z (b :: r)
        by_cases hpp : [47, 47].isPrefixOf (b :: r) = true
        · have hs : stepV (b :: r) may = .skip (lineV (b :: r)) := by rw [stepV_cons, if_neg hb, if_pos hpp]
          have hs' : stepV (blindV (32 :: z) (b :: r)) may = .skip (lineV (blindV (32 :: z) (b :: r))) := by
            rw [hpp] at hp
            rw [blind_cons _ r h32] at hp ⊢
            rw [stepV_cons, if_neg hb, if_pos hp]
          have h2 := lineV_two hpp
          have hd : (blindV (32 :: z) (b :: r)).drop (lineV (blindV (32 :: z) (b :: r))) = blindV (32 :: z) ((b :: r).drop (lineV (b :: r))) := by
            rw [blind_line z hz]
            conv => lhs; arg 2; rw [← List.take_append_drop (lineV (b :: r)) (b :: r), blind_append]
            exact List.drop_left' rfl
          rw [lx_skip (by simp) hs, lx_skip (by rw [blind_cons _ r h32]; simp) hs', hd]
          exact ih _ (by rw [List.length_drop, List.length_cons]; omega) _ _ _
        · have hpp' : ¬ [47, 47].isPrefixOf (b :: blindV (32 :: z) r) = true := by
            rw [blind_cons _ r h32] at hp
            rw [hp]; exact hpp
          by_cases h10 : b = 10
          · subst h10
            rw [blind_cons _ r h32]
            cases may with
            | false =>
              have hs : ∀ r, stepV (10 :: r) false = .skip 1 := fun r => rfl
              rw [lx_skip (by simp) (hs _), lx_skip (by simp) (hs _)]
              exact ih r (by omega) _ _ _
            | true =>
              have hs : ∀ r, stepV (10 :: r) true = .cut (.tok 5 1) := fun r => rfl
              rw [lx_tok (by simp) (hs _), lx_tok (by simp) (hs _)]
              simp only [List.take, List.drop]
              obtain ⟨g1, g2⟩ := ih r (by omega) (a + 1) (a' + 1) (mayV 5 [10])
              exact ⟨by simp only [List.map_cons]; rw [g1], g2⟩
          · obtain ⟨hc1, hc2⟩ := blind_cut z b r h32
            have hs : stepV (b :: r) may = .cut (cutV (b :: r)) := by rw [stepV_cons, if_neg hb, if_neg hpp, if_neg h10]
            have hs' : stepV (blindV (32 :: z) (b :: r)) may = .cut (cutV (b :: r)) := by
              rw [blind_cons _ r h32] at hc1 ⊢
              rw [stepV_cons, if_neg hb, if_neg hpp', if_neg h10, hc1]
            have hne : blindV (32 :: z) (b :: r) ≠ [] := by rw [blind_cons _ r h32]; simp
            cases hc : cutV (b :: r) with
            | err e =>
              rw [hc] at hs hs'
              rw [lx_err (by simp) hs, lx_err hne hs']
              exact ⟨rfl, rfl⟩
            | tok k n =>
              rw [hc] at hs hs'
              have h3 := cutV_tok hc
              have hn := blind_none (32 :: z) _ (hc2 k n hc)
              have hsp : blindV (32 :: z) (b :: r) = (b :: r).take n ++ blindV (32 :: z) ((b :: r).drop n) := by
                conv => lhs; rw [← List.take_append_drop n (b :: r), blind_append, hn]
              have hlen : ((b :: r).take n).length = n := by rw [List.length_take]; omega
              rw [lx_tok (by simp) hs, lx_tok hne hs', hsp, List.take_left' hlen, List.drop_left' hlen]
              obtain ⟨g1, g2⟩ := ih ((b :: r).drop n) (by rw [List.length_drop, List.length_cons]; omega) (a + n) (a' + n) (mayV k ((b :: r).take n))
              exact ⟨by simp only [List.map_cons]; rw [g1], g2⟩
end Lx
end Go.Proofs.YtgmdnkhlkabaiaaGreatDoor
