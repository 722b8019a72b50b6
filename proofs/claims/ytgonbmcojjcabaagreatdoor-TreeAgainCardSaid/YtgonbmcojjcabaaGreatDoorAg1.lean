/-
  Texts of one proof, in build order: Tokens, as chapter 7 has them: a text's tokens, step by step; what a byte more changes nothing of. | Keeps S w w': of what lay in w all blocks but those of S lie as they lay. Of no chapter. | The walks of package lex, first part: digits, letters, words' ends. | The walks of package lex, second part: words' ends, the language's own words, what may end a line. | The walks of package lex, third part: the cutter in memory; where a line ends; blanks and remarks. | The walks of package lex, fourth part: a token taken; an error told. | The walks of package lex, fifth part: errors told; numbers. | The walks of package lex, sixth part: cutNumber. | The walks of package lex, seventh part: cutWord, cutSign, cutLine. | The walks of package lex, eighth part: cutLine, cut. | The walk of package lex's Lex. | Tokens in memory, as a slice. | Trees in memory: an expression behind its pointer, expressions in a row, statements, cases; F: the blocks that they may lie in.
-/
import Derived.Test.YtgonbmcojjcabaaGreatDoorAg0
import Derived.WalkKit
import Derived.Below
import Derived.Maps.Own
import Derived.Maps.OwnSet
import Derived.Maps.Range
import Derived.Test.YtgonbmcojjcabaaGreatDoorAgShelf
import Derived.WalkSpells
import Derived.WalkLawsBesides
import Derived.Lib.Hide
import Derived.IntWalk
import Derived.Deep.QuietTactic
import Derived.BigQuiet
import Derived.RegionTactic
import Derived.Laws.AppendOwn
import Derived.Deep.Draws
import Derived.Deep.RegionLaw
import Derived.Maps.AppendAt
import Derived.StillTailTactics
import Derived.Lib.ParseIntB
import Derived.Deep.MidRow
import Derived.Deep.DrawnRows
namespace Go.Proofs.YtgonbmcojjcabaaGreatDoor
namespace Lx

theorem pfx_ext : ∀ (z l x : B) (b : UInt8), b ∉ z → z.isPrefixOf (l ++ b :: x) = z.isPrefixOf l := by
  intro z
  induction z with
  | nil => intro l x b _; cases l <;> rfl
  | cons c z ih =>
    intro l x b hb
    cases l with
    | nil =>
      have : c ≠ b := fun e => hb (by rw [e]; exact List.mem_cons_self ..)
      simp [List.isPrefixOf, this]
    | cons d l =>
      have := ih l x b (fun h => hb (List.mem_cons_of_mem _ h))
      simp [List.isPrefixOf, this]

theorem stop_ne {b : UInt8} (h : isStop b = true) {c : UInt8} (hc : isStop c = false) : b ≠ c := fun e => by rw [e, hc] at h; cases h
theorem sigs_noStop : ∀ z ∈ sigsL, ∀ c ∈ z, isStop c = false := by decide
theorem sigs_self : ∀ z ∈ sigsL, sigsL.find? (·.isPrefixOf z) = some z := by decide
theorem sigs_pos : ∀ z ∈ sigsL, 0 < z.length := by decide
theorem sigs_head : ∀ z ∈ sigsL, letV z = 0 ∧ (∀ c ∈ z.head?, c ≠ 59 ∧ isDg c = false ∧ isBl c = false ∧ c ≠ 10) ∧ [47, 47].isPrefixOf z = false := by decide
theorem sig_mem {l z : B} (h : sigsL.find? (·.isPrefixOf l) = some z) : z ∈ sigsL ∧ z <+: l := ⟨List.mem_of_find?_eq_some h, List.isPrefixOf_iff_prefix.1 (by simpa using List.find?_some h)⟩

theorem find_ext (l x : B) (b : UInt8) (hb : isStop b = true) : sigsL.find? (·.isPrefixOf (l ++ b :: x)) = sigsL.find? (·.isPrefixOf l) := by
  have key : ∀ L : List B, (∀ z ∈ L, b ∉ z) → L.find? (·.isPrefixOf (l ++ b :: x)) = L.find? (·.isPrefixOf l) := by
    intro L
    induction L with
    | nil => intro _; rfl
    | cons z L ih =>
      intro h
      rw [List.find?_cons, List.find?_cons, pfx_ext z l x b (h z (List.mem_cons_self ..)), ih fun y hy => h y (List.mem_cons_of_mem _ hy)]
  exact key sigsL fun z hz hm => by have := sigs_noStop z hz b hm; rw [hb] at this; cases this

theorem cutV_cons (b : UInt8) (r : B) : cutV (b :: r) = if b = 59 then .tok 5 1 else if isDg b then numCut (b :: r) else if 0 < letV (b :: r) then wordCut (b :: r) else sigCut (b :: r) := rfl
theorem stepV_cons (b : UInt8) (r : B) (may : Bool) : stepV (b :: r) may = if isBl b then .skip 1 else if [47, 47].isPrefixOf (b :: r) then .skip (lineV (b :: r)) else if b = 10 then (if may then .cut (.tok 5 1) else .skip 1) else .cut (cutV (b :: r)) := rfl
theorem cutV_ext (l x : B) (b : UInt8) (hb : isStop b = true) (h : l ≠ []) : cutV (l ++ b :: x) = cutV l := by
  cases l with
  | nil => exact absurd rfl h
  | cons c r =>
    have hn : numCut (c :: r ++ b :: x) = numCut (c :: r) := by
      have hle := digV_le (c :: r)
      unfold numCut
      rw [digV_ext _ x b hb, List.drop_append_of_le_length hle, letV_ext _ x b hb, List.take_append_of_le_length hle]
      rfl
    have hw : wordCut (c :: r ++ b :: x) = wordCut (c :: r) := by
      have hle := wordV_le _ (c :: r) (Nat.le_refl _)
      unfold wordCut
      rw [wordV_ext _ (c :: r) x b (Nat.le_refl _) hb, List.take_append_of_le_length hle]
    have hs : sigCut (c :: r ++ b :: x) = sigCut (c :: r) := by
      unfold sigCut
      rw [find_ext _ x b hb]
    have hl := letV_ext (c :: r) x b hb
    rw [List.cons_append] at hn hw hs hl ⊢
    simp only [cutV_cons, hn, hw, hs, hl]

theorem lineV_two {l : B} (h : [47, 47].isPrefixOf l = true) : 2 ≤ lineV l := by
  obtain ⟨r, rfl⟩ := List.isPrefixOf_iff_prefix.1 h
  show 2 ≤ (List.takeWhile (fun b => b != 10) (47 :: 47 :: r)).length
  rw [List.takeWhile_cons_of_pos (by decide), List.takeWhile_cons_of_pos (by decide)]
  simp only [List.length_cons]; omega

theorem cutV_tok {l : B} {k n : Nat} (h : cutV l = .tok k n) : 1 ≤ n ∧ n ≤ l.length ∧ (k = 1 ∨ k = 2 ∨ k = 3 ∨ k = 4 ∨ k = 5) := by
  cases l with
  | nil => cases h
  | cons b r =>
    rw [cutV_cons] at h
    split at h
    · cases h; exact ⟨Nat.le_refl _, by simp, by simp⟩
    · split at h
      · rename_i hd
        unfold numCut at h
        have h1 := digV_le (b :: r)
        have h2 := digV_cons (r := r) hd
        split at h
        · cases h
        · split at h
          · cases h
          · cases h; exact ⟨by omega, h1, by simp⟩
      · split at h
        · rename_i hl
          have h1 := wordV_le _ (b :: r) (Nat.le_refl _)
          have h2 : 0 < wordV (b :: r) := wordV_pos (by unfold alnV; rw [if_neg (by omega)]; exact hl)
          unfold wordCut at h
          split at h
          · cases h; exact ⟨h2, h1, by simp⟩
          · split at h
            · cases h
            · cases h; exact ⟨h2, h1, by simp⟩
        · unfold sigCut at h
          split at h
          · rename_i x hx
            cases h
            obtain ⟨g1, g2⟩ := sig_mem hx
            exact ⟨sigs_pos x g1, g2.length_le, by simp⟩
          · cases h

theorem step_skip {l : B} {may : Bool} {n : Nat} (hl : l ≠ []) (h : stepV l may = .skip n) : 1 ≤ n ∧ n ≤ l.length := by
  cases l with
  | nil => exact absurd rfl hl
  | cons b r =>
    rw [stepV_cons] at h
    split at h
    · cases h; simp
    · split at h
      · rename_i hp
        cases h
        exact ⟨by have := lineV_two hp; omega, lineV_le _⟩
      · split at h
        · split at h
          · cases h
          · cases h; simp
        · cases h
theorem step_tok {l : B} {may : Bool} {k n : Nat} (hl : l ≠ []) (h : stepV l may = .cut (.tok k n)) : 1 ≤ n ∧ n ≤ l.length ∧ (k = 1 ∨ k = 2 ∨ k = 3 ∨ k = 4 ∨ k = 5) := by
  cases l with
  | nil => exact absurd rfl hl
  | cons b r =>
    rw [stepV_cons] at h
    split at h
    · cases h
    · split at h
      · cases h
      · split at h
        · split at h
          · cases h; exact ⟨Nat.le_refl _, by simp, by simp⟩
          · cases h
        · have h' : cutV (b :: r) = .tok k n := by injection h
          exact cutV_tok h'

theorem lxF_fuel : ∀ (f g : Nat) (l : B) (a : Nat) (may : Bool), l.length ≤ f → l.length ≤ g → lxF f l a may = lxF g l a may := by
  intro f
  induction f with
  | zero =>
    intro g l a may hf _
    have : l = [] := List.eq_nil_of_length_eq_zero (by omega)
    subst this
    cases g with
    | zero => rfl
    | succ g => rfl
  | succ f ih =>
    intro g l a may hf hg
    cases g with
    | zero =>
      have : l = [] := List.eq_nil_of_length_eq_zero (by omega)
      subst this
      rfl
    | succ g =>
      unfold lxF
      by_cases hl : l = []
      · rw [if_pos hl, if_pos hl]
      · rw [if_neg hl, if_neg hl]
        cases hs : stepV l may with
        | skip n =>
          obtain ⟨h1, h2⟩ := step_skip hl hs
          have := ih g (l.drop n) (a + n) may (by rw [List.length_drop]; omega) (by rw [List.length_drop]; omega)
          exact this
        | cut c =>
          cases c with
          | err e => rfl
          | tok k n =>
            obtain ⟨h1, h2, _⟩ := step_tok hl hs
            have := ih g (l.drop n) (a + n) (mayV k (l.take n)) (by rw [List.length_drop]; omega) (by rw [List.length_drop]; omega)
            simp only [this]
theorem lx_nil (a : Nat) (may : Bool) : lx [] a may = (endV a may, none) := rfl
theorem lx_unf {l : B} (hl : l ≠ []) (a : Nat) (may : Bool) : lx l a may = match stepV l may with
    | .skip n => lx (l.drop n) (a + n) may
    | .cut (.tok k n) => (⟨k, l.take n, a⟩ :: (lx (l.drop n) (a + n) (mayV k (l.take n))).1, (lx (l.drop n) (a + n) (mayV k (l.take n))).2)
    | .cut (.err e) => ([], some (e, a)) := by
  have hp : 0 < l.length := List.length_pos_iff.2 hl
  obtain ⟨m, hm⟩ : ∃ m, l.length = m + 1 := ⟨l.length - 1, by omega⟩
  have e : lx l a may = lxF (m + 1) l a may := by unfold lx; rw [hm]
  rw [e]
  conv => lhs; unfold lxF
  rw [if_neg hl]
  cases hs : stepV l may with
  | skip n =>
    obtain ⟨h1, h2⟩ := step_skip hl hs
    exact lxF_fuel _ _ _ _ _ (by rw [List.length_drop]; omega) (Nat.le_refl _)
  | cut c =>
    cases c with
    | err e => rfl
    | tok k n =>
      obtain ⟨h1, h2, _⟩ := step_tok hl hs
      have := lxF_fuel m _ (l.drop n) (a + n) (mayV k (l.take n)) (by rw [List.length_drop]; omega) (Nat.le_refl _)
      simp only [this, lx]
theorem lx_skip {l : B} {may : Bool} {n : Nat} (hl : l ≠ []) (h : stepV l may = .skip n) (a : Nat) : lx l a may = lx (l.drop n) (a + n) may := by
  rw [lx_unf hl, h]
theorem lx_tok {l : B} {may : Bool} {k n : Nat} (hl : l ≠ []) (h : stepV l may = .cut (.tok k n)) (a : Nat) :
    lx l a may = (⟨k, l.take n, a⟩ :: (lx (l.drop n) (a + n) (mayV k (l.take n))).1, (lx (l.drop n) (a + n) (mayV k (l.take n))).2) := by
  rw [lx_unf hl, h]
theorem lx_err {l : B} {may : Bool} {e : Nat} (hl : l ≠ []) (h : stepV l may = .cut (.err e)) (a : Nat) : lx l a may = ([], some (e, a)) := by
  rw [lx_unf hl, h]

/-- What is cut with nothing wrong, by induction along its steps. -/
theorem lx_induct (C : B → Nat → Bool → List Tok → Prop)
    (hnil : ∀ a may, C [] a may (endV a may))
    (hskip : ∀ l a may n ts, l ≠ [] → stepV l may = .skip n → 1 ≤ n → n ≤ l.length → lx (l.drop n) (a + n) may = (ts, none) → C (l.drop n) (a + n) may ts → C l a may ts)
    (htok : ∀ l a may k n ts, l ≠ [] → stepV l may = .cut (.tok k n) → 1 ≤ n → n ≤ l.length → lx (l.drop n) (a + n) (mayV k (l.take n)) = (ts, none) → C (l.drop n) (a + n) (mayV k (l.take n)) ts → C l a may (⟨k, l.take n, a⟩ :: ts)) :
    ∀ l a may ts, lx l a may = (ts, none) → C l a may ts := by
  have key : ∀ m, ∀ l : B, l.length ≤ m → ∀ a may ts, lx l a may = (ts, none) → C l a may ts := by
    intro m
    induction m with
    | zero =>
      intro l hm a may ts h
      have : l = [] := List.eq_nil_of_length_eq_zero (by omega)
      subst this
      rw [lx_nil] at h
      cases h
      exact hnil a may
    | succ m ih =>
      intro l hm a may ts h
      by_cases hl : l = []
      · subst hl
        rw [lx_nil] at h
        cases h
        exact hnil a may
      · cases hs : stepV l may with
        | skip n =>
          obtain ⟨h1, h2⟩ := step_skip hl hs
          rw [lx_skip hl hs] at h
          exact hskip l a may n ts hl hs h1 h2 h (ih _ (by rw [List.length_drop]; omega) _ _ _ h)
        | cut c =>
          cases c with
          | err e => rw [lx_err hl hs] at h; cases h
          | tok k n =>
            obtain ⟨h1, h2, _⟩ := step_tok hl hs
            rw [lx_tok hl hs] at h
            obtain ⟨rfl, h4⟩ := Prod.mk.inj h
            have h5 : lx (l.drop n) (a + n) (mayV k (l.take n)) = ((lx (l.drop n) (a + n) (mayV k (l.take n))).1, none) := by
              rw [← h4]
            exact htok l a may k n _ hl hs h1 h2 h5 (ih _ (by rw [List.length_drop]; omega) _ _ _ h5)
  exact fun l => key l.length l (Nat.le_refl _)

theorem lineV_drop_head : ∀ (l : B), lineV l < l.length → ∃ r, l.drop (lineV l) = 10 :: r := by
  intro l
  induction l with
  | nil => intro h; exact absurd h (Nat.lt_irrefl _)
  | cons b r ih =>
    intro h
    by_cases hb : b = 10
    · subst hb
      exact ⟨r, by unfold lineV; rw [List.takeWhile_cons_of_neg (by decide)]; rfl⟩
    · have e : lineV (b :: r) = lineV r + 1 := by unfold lineV; rw [List.takeWhile_cons_of_pos (by simpa using hb)]; rfl
      rw [e] at h ⊢
      rw [List.drop_succ_cons]
      exact ih (by simpa using h)
theorem lineV_ext (l x : B) : lineV (l ++ 10 :: x) = lineV l := by
  induction l with
  | nil => rfl
  | cons b r ih =>
    unfold lineV at ih ⊢
    by_cases hb : b = 10
    · subst hb; rfl
    · rw [List.cons_append, List.takeWhile_cons_of_pos (by simpa using hb), List.takeWhile_cons_of_pos (by simpa using hb), List.length_cons, List.length_cons, ih]
theorem lineV_take (l : B) (m : Nat) (h : lineV l ≤ m) : lineV (l.take m) = lineV l := by
  induction l generalizing m with
  | nil => simp [lineV]
  | cons b r ih =>
    by_cases hb : b = 10
    · subst hb
      cases m with
      | zero => rfl
      | succ m => rfl
    · have e : ∀ r : B, lineV (b :: r) = lineV r + 1 := fun r => by unfold lineV; rw [List.takeWhile_cons_of_pos (by simpa using hb)]; rfl
      rw [e] at h
      cases m with
      | zero => omega
      | succ m => rw [List.take_succ_cons, e, e, ih m (by omega)]

theorem stop_of_bl {b : UInt8} (h : isBl b = true) : isStop b = true := by
  simp [isBl] at h; simp [isStop]; omega
theorem stop_32 : isStop 32 = true := by decide
theorem stop_10 : isStop 10 = true := by decide
/-- A line feed behind a text changes nothing of its steps. -/
theorem step_ext (l x : B) (may : Bool) (h : l ≠ []) : stepV (l ++ 10 :: x) may = stepV l may := by
  have h1 := pfx_ext [47, 47] l x 10 (by decide)
  have h2 := lineV_ext l x
  have h3 := cutV_ext l x 10 stop_10 h
  cases l with
  | nil => exact absurd rfl h
  | cons b r =>
    rw [List.cons_append] at h1 h2 h3 ⊢
    rw [stepV_cons, stepV_cons, h1, h2, h3]
end Lx
end Go.Proofs.YtgonbmcojjcabaaGreatDoor

namespace Go.Proofs.YtgonbmcojjcabaaGreatDoor
open Go.RowKit

structure Keeps (S : Nat → Prop) (w w' : World) : Prop where
  os : w'.os = w.os
  tape : w'.tape = w.tape
  output : w'.output = w.output
  size : w.heap.size ≤ w'.heap.size
  block : ∀ k, k < w.heap.size → ¬ S k → w'.heap[k]? = w.heap[k]?

namespace Keeps
variable {S : Nat → Prop} {a w w' : World}
theorem refl (S : Nat → Prop) (w : World) : Keeps S w w := ⟨rfl, rfl, rfl, Nat.le_refl _, fun _ _ _ => rfl⟩
theorem trans (h : Keeps S a w) (k : Keeps S w w') : Keeps S a w' :=
  ⟨k.os.trans h.os, k.tape.trans h.tape, k.output.trans h.output, Nat.le_trans h.size k.size, fun i hi hs => (k.block i (Nat.lt_of_lt_of_le hi h.size) hs).trans (h.block i hi hs)⟩
/-- The second one may also write what is new. -/
theorem trans' {S' : Nat → Prop} (h : Keeps S a w) (k : Keeps S' w w') (hs : ∀ i, i < a.heap.size → S' i → S i) : Keeps S a w' :=
  ⟨k.os.trans h.os, k.tape.trans h.tape, k.output.trans h.output, Nat.le_trans h.size k.size, fun i hi hn => (k.block i (Nat.lt_of_lt_of_le hi h.size) (fun e => hn (hs i hi e))).trans (h.block i hi hn)⟩
theorem mono {S' : Nat → Prop} (h : Keeps S w w') (hs : ∀ i, i < w.heap.size → S i → S' i) : Keeps S' w w' :=
  ⟨h.os, h.tape, h.output, h.size, fun i hi hn => h.block i hi (fun e => hn (hs i hi e))⟩
theorem alloc (h : Keeps S a w) (o : Obj) : Keeps S a (w.alloc o) :=
  h.trans ⟨rfl, rfl, rfl, by simp, fun k hk _ => Below.heap_alloc _ _ _ hk⟩
theorem drew (h : Keeps S a w) : Keeps S a w.drew := ⟨h.os, h.tape, h.output, h.size, h.block⟩
theorem setCell (h : Keeps S a w) {p : Addr} (hp : S p.block ∨ a.heap.size ≤ p.block) (u : Value) : Keeps S a (w.setCell p u) :=
  ⟨h.os, h.tape, h.output, by simpa [World.setCell] using h.size, fun k hk hn => (Below.heap_setCell _ _ _ _ (by rintro rfl; rcases hp with hp | hp; exact hn hp; omega)).trans (h.block k hk hn)⟩
theorem of_below {B : Nat} (h : Below B w w') (hs : ∀ k, k < w.heap.size → B ≤ k → S k) : Keeps S w w' :=
  ⟨h.os, h.tape, h.output, h.size, fun k hk hn => h.block k (Nat.lt_of_not_le fun e => hn (hs k hk e))⟩
theorem of_new (h : Below w.heap.size w w') : Keeps S w w' := of_below h fun k hk e => by omega
theorem of_grownBy {row : Option Nat} (h : w.grownBy w' row) (hs : ∀ k, k < w.heap.size → row = some k → S k) : Keeps S w w' :=
  ⟨h.os, h.tape, h.output, h.size, fun k hk hn => h.block k hk (fun e => hn (hs k hk e.symm))⟩
theorem below {B : Nat} (h : Keeps S w w') (hB : B ≤ w.heap.size) (hs : ∀ k, k < w.heap.size → S k → B ≤ k) : Below B w w' :=
  ⟨h.os, h.tape, h.output, h.size, fun k hk => h.block k (Nat.lt_of_lt_of_le hk hB) (fun e => by have := hs k (by omega) e; omega)⟩
theorem cell (h : Keeps S w w') {p : Addr} (hp : p.block < w.heap.size) (hn : ¬ S p.block) : w'.cell? p = w.cell? p := World.cell?_of_block (w := w) (h.block p.block hp hn)
theorem cell_of (h : Keeps S w w') {p : Addr} {v : Value} (hv : w.cell? p = some v) (hn : ¬ S p.block) : w'.cell? p = some v := by
  rw [h.cell (block_lt_of_cell hv) hn]; exact hv
theorem frozen (h : Keeps S w w') {p : Addr} (hp : p.block < w.heap.size) (hn : ¬ S p.block) : w'.frozen? p = w.frozen? p := World.frozen?_of_block (w := w) (h.block p.block hp hn)
theorem row (h : Keeps S w w') {base : Nat} {e : TypeId} {size : Nat} {v : Value} {n : Nat} {xs : List Value} (ho : w.ownsRow base e size v n xs) (hn : ∀ k, v.ownBlock = some k → ¬ S k) : w'.ownsRow base e size v n xs := by
  obtain ⟨h1, h2⟩ := ho
  refine ⟨h1, ?_⟩
  rcases h2 with ⟨rfl, h3⟩ | ⟨g, cap, cur, rfl, h3, h4, h5⟩
  · exact Or.inl ⟨rfl, h3⟩
  · exact Or.inr ⟨g, cap, cur, rfl, h3, by
      rw [h.block g (Array.getElem?_eq_some_iff.1 h4).1 (hn g rfl)]; exact h4, h5⟩
theorem map {H : Type} {P : Program} {k : TypeId} {R : Value → Option (DataW H × List MemPlace)} {b n : Nat} {D : DataW H} (h : Keeps S w w') (ho : w.ownsMap P k R b n D) (hn : ¬ S b) : w'.ownsMap P k R b n D := by
  obtain ⟨es, clock, h1, h2⟩ := ho
  exact ⟨es, clock, by rw [h.block b (Array.getElem?_eq_some_iff.1 h1).1 hn]; exact h1, h2⟩
end Keeps
end Go.Proofs.YtgonbmcojjcabaaGreatDoor

namespace Go.Proofs.YtgonbmcojjcabaaGreatDoor
open Go.RowKit Lx

/-- What stands from place a on. -/
def rs (s : ByteArray) (a : Nat) : B := s.data.toList.drop a
theorem rs_length (s : ByteArray) (a : Nat) : (rs s a).length = s.size - a := by simp [rs]
theorem rs_drop (s : ByteArray) (a n : Nat) : (rs s a).drop n = rs s (a + n) := by simp [rs, List.drop_drop]
theorem rs_nil (s : ByteArray) (a : Nat) (h : s.size ≤ a) : rs s a = [] := List.drop_eq_nil_of_le (by simpa using h)
theorem rs_cons (s : ByteArray) (a : Nat) (h : a < s.size) : rs s a = s[a] :: rs s (a + 1) := by
  have hd : a < s.data.toList.length := by simpa using h
  unfold rs
  rw [List.drop_eq_getElem_cons hd]
  rfl
theorem rs_extract (s : ByteArray) (a b : Nat) : (s.extract a b).data.toList = (rs s a).take (b - a) := by
  unfold rs
  rw [ByteArray.data_extract, Array.toList_extract, List.extract_eq_take_drop]
theorem rs_extract_all (s : ByteArray) (a : Nat) : (s.extract a s.size).data.toList = rs s a := by
  rw [rs_extract, ← rs_length, List.take_length]
theorem extract_size (s : ByteArray) (a : Nat) (h : a ≤ s.size) : (s.extract a s.size).size = s.size - a := by
  rw [ByteArray.size_extract]; omega

theorem ret_int {a b : Int} (h : a = b) : Ending.returned (.int .i64 a) = .returned (.int .i64 b) := by rw [h]
set_option maxRecDepth 100000 in
set_option maxHeartbeats 800000 in
theorem isDigit_any (b : UInt8) (w : World) : Calls Tryz.prog 82 #[.int .u8 (b.toNat : Int)] w fun e w' => e = .returned (.bool (isDg b)) ∧ w = w' := by
  unfold isDg
  generalize b.toNat = x
  by_cases h1 : 48 ≤ x <;> by_cases h2 : x ≤ 57
  all_goals
    have g1 : (48 : Int) ≤ (x : Int) ↔ 48 ≤ x := by omega
    have g2 : (x : Int) ≤ 57 ↔ x ≤ 57 := by omega
    go_enter Tryz.func82, Tryz.ntmps82
    go_wp2_with fail
    go_ret
    exact ⟨by simp [*], rfl⟩

/-- The decoder's two tables. -/
abbrev Tabs (w : World) : Prop := Lib.Utf8Tabs 4 5 w

theorem get!_lt (s : ByteArray) (k : Nat) (h : k < s.size) : s.get! k = (rs s k).getD 0 0 := by
  rw [rs_cons s k h]
  cases s with | mk d => exact getElem!_pos d k h
theorem get!_ge (s : ByteArray) (k : Nat) (h : s.size ≤ k) : s.get! k = 0 := by
  cases s with
  | mk d =>
    show d[k]! = 0
    rw [getElem!_neg d k (by intro g; have : k < d.size := g; have : d.size ≤ k := h; omega)]
    rfl
theorem decodeGo_rs (s : ByteArray) (h : 0 < s.size) : Lib.decodeGo s = dec s.data.toList := by
  have hl : s.data.toList.length = s.size := by simp
  have e : ∀ k, s.get! k = s.data.toList.getD k 0 := fun k => by
    by_cases hk : k < s.size
    · rw [get!_lt s k hk]
      unfold rs
      rw [List.getD_eq_getElem?_getD, List.getD_eq_getElem?_getD, List.getElem?_drop, Nat.add_zero]
    · rw [get!_ge s k (by omega), List.getD_eq_getElem?_getD, List.getElem?_eq_none (by omega)]; rfl
  unfold Lib.decodeGo dec
  rw [if_neg (by omega), Lib.decode_at, e, e, e, e, hl, Nat.sub_zero, Nat.zero_add, Nat.zero_add, Nat.zero_add]

set_option maxRecDepth 100000 in
set_option maxHeartbeats 1600000 in
theorem letter_any (s : ByteArray) (a : Nat) (w : World) (_hs : s.size ≤ 4000000) (hT : Tabs w) :
    Calls Tryz.prog 84 #[.string s, .int .i64 a] w fun e w' => e = .returned (.int .i64 (letV (rs s a))) ∧ Below w.heap.size w w' := by
  by_cases h : a < s.size
  · have hc := rs_cons s a h
    have hx : s[a].toNat < 256 := s[a].toNat_lt
    have hlt : ¬ ((s.size : Int) ≤ (a : Int)) := by omega
    have hi : (0 : Int) ≤ (a : Int) ∧ (a : Int) < (s.size : Int) := by omega
    have hi2 : (a : Int) ≤ (s.size : Int) := by omega
    by_cases hb : s[a].toNat < 128
    · have hbi : (s[a].toNat : Int) < 128 := by omega
      obtain ⟨r, hr⟩ : ∃ r, r = letV (rs s a) := ⟨_, rfl⟩
      have e : r = if isAl s[a] then 1 else 0 := by rw [hr, hc]; simp only [letV, if_pos hb]
      rw [← hr]
      unfold isAl at e
      have E := Lib.hid e
      clear hr hc e
      go_enter Tryz.func84, Tryz.ntmps84
      go_wp2_with fail
      all_goals
        go_ret
        refine ⟨ret_int ?_, Below.refl _ _⟩
        rw [E.out]
        simp only [Bool.or_eq_true, Bool.and_eq_true, decide_eq_true_eq, beq_iff_eq] at *
        split <;> omega
    · have hbi : ¬ ((s[a].toNat : Int) < 128) := by omega
      obtain ⟨r, hr⟩ : ∃ r, r = letV (rs s a) := ⟨_, rfl⟩
      have e : r = if (dec (rs s a)).2 = 1 then 0 else (dec (rs s a)).2 := by
        rw [hr, hc]; simp only [letV, if_neg hb]
      have hd : Lib.decodeGo (s.extract a s.size) = dec (rs s a) := by
        rw [decodeGo_rs _ (by rw [extract_size _ _ (by omega)]; omega), rs_extract_all]
      have HC := Tryz.utf8_DecodeRuneInString (s.extract a s.size) w hT
      rw [hd] at HC
      rw [← hr]
      clear hr hc hd
      generalize dec (rs s a) = d at *
      obtain ⟨d1, d2⟩ := d
      have hC := Lib.hid HC
      clear HC hT
      by_cases h1 : d2 = 1
      · subst h1
        simp only [if_pos] at e
        subst e
        go_enter Tryz.func84, Tryz.ntmps84
        go_wp2_with (go_at_call 77; refine hC.out.mono ?_; rintro e w1 ⟨rfl, hb1⟩)
        go_ret
        exact ⟨rfl, hb1⟩
      · have h1i : ¬ ((d2 : Int) = 1) := by omega
        simp only [if_neg h1] at e
        subst e
        go_enter Tryz.func84, Tryz.ntmps84
        go_wp2_with (go_at_call 77; refine hC.out.mono ?_; rintro e w1 ⟨rfl, hb1⟩)
        go_ret
        exact ⟨rfl, hb1⟩
  · rw [rs_nil s a (by omega)]
    have hlt : (s.size : Int) ≤ (a : Int) := by omega
    go_enter Tryz.func84, Tryz.ntmps84
    go_wp2_with fail
    go_ret
    exact ⟨rfl, Below.refl _ _⟩
end Go.Proofs.YtgonbmcojjcabaaGreatDoor

namespace Go.Proofs.YtgonbmcojjcabaaGreatDoor
open Go.RowKit Lx

theorem Tabs.lt {w : World} (h : Tabs w) : 4 < w.heap.size ∧ 5 < w.heap.size :=
  ⟨block_lt_of_cell (h.1 0 (by decide)), block_lt_of_cell (h.2 0 (by decide)).1⟩
theorem Tabs.below {w w' : World} {n : Nat} (h : Tabs w) (hb : Below n w w') (h1 : 4 < n) (h2 : 5 < n) : Tabs w' :=
  ⟨fun c hc => by rw [hb.cell (p := ⟨4, c, none⟩) h1]; exact h.1 c hc,
   fun i hi => ⟨by rw [hb.cell (p := ⟨5, 2 * i, none⟩) h2]; exact (h.2 i hi).1, by rw [hb.cell (p := ⟨5, 2 * i + 1, none⟩) h2]; exact (h.2 i hi).2⟩⟩
theorem Tabs.next {w w' : World} (h : Tabs w) (hb : Below w.heap.size w w') : Tabs w' := h.below hb h.lt.1 h.lt.2

set_option maxRecDepth 100000 in
set_option maxHeartbeats 1600000 in
theorem wordEnd_any (s : ByteArray) (a : Nat) (w : World) (hs : s.size ≤ 4000000) (ha : a ≤ s.size) (hT : Tabs w) :
    Calls Tryz.prog 115 #[.string s, .int .i64 a] w fun e w' => e = .returned (.int .i64 (a + wordV (rs s a) : Nat)) ∧ Below w.heap.size w w' := by
  obtain ⟨R, hR⟩ : ∃ R, R = a + wordV (rs s a) := ⟨_, rfl⟩
  rw [← hR]
  have HR := Lib.hid hR
  have HT := Lib.hid hT
  clear hR hT
  go_enter Tryz.func115, Tryz.ntmps115
  go_wp2_with fail
  go_loopw [1] (fun i wr => ∃ k : Nat, k ≤ s.size ∧ i = .int .i64 k ∧ R = k + wordV (rs s k) ∧ Below w.heap.size w wr) (fun i _ => s.size - (intOf i).toNat)
  case atStart => exact ⟨a, ha, rfl, HR.out, Below.refl _ _⟩
  case round =>
    obtain ⟨k, hk, rfl, hr, hb⟩ := hrel
    have HTr := Lib.hid (HT.out.next hb)
    have H := Lib.hid hr
    clear hr
    by_cases hlt : k < s.size
    · have hc := rs_cons s k hlt
      have hle := letV_le (rs s k)
      rw [rs_length] at hle
      have hli : (k : Int) < (s.size : Int) := by omega
      have hii : (0 : Int) ≤ (k : Int) ∧ (k : Int) < (s.size : Int) := by omega
      have LC : Hid (Calls Tryz.prog 84 #[.string s, .int .i64 k] wr fun e w' => e = .returned (.int .i64 (letV (rs s k))) ∧ Below wr.heap.size wr w') := Lib.hid (letter_any s k wr hs HTr.out)
      have HW : Hid (wordV (rs s k) = if alnV (rs s k) = 0 then 0 else alnV (rs s k) + wordV (rs s (k + alnV (rs s k)))) := Lib.hid (by rw [wordV_eq, rs_drop])
      by_cases h0 : letV (rs s k) = 0
      · have HA : Hid (alnV (rs s k) = if isDg s[k] then 1 else 0) := Lib.hid (by unfold alnV; rw [if_pos h0, hc])
        rw [h0] at LC
        clear hc h0 hle
        have HD := fun w => isDigit_any s[k] w
        by_cases hd : isDg s[k] = true
        · rw [hd] at HA HD
          go_wp2_with (first | (go_at_call 84; refine LC.out.mono ?_; rintro e w1 ⟨rfl, hb1⟩) | (go_at_call 82; refine (HD _).mono ?_; rintro e w2 ⟨rfl, rfl⟩))
          go_roundw
          case rel =>
            refine ⟨k + 1, by omega, by go_num, ?_, hb.trans (hb1.mono hb.size)⟩
            have h1 := H.out
            have h2 := HW.out
            rw [HA.out] at h2
            simp only [if_true] at h2
            rw [if_neg (by decide)] at h2
            omega
          case measure => simp [intOf]; omega
        · have hd' : isDg s[k] = false := by simpa using hd
          rw [hd'] at HA HD
          go_wp2_with (first | (go_at_call 84; refine LC.out.mono ?_; rintro e w1 ⟨rfl, hb1⟩) | (go_at_call 82; refine (HD _).mono ?_; rintro e w2 ⟨rfl, rfl⟩))
          go_ret
          refine ⟨ret_int ?_, hb.trans (hb1.mono hb.size)⟩
          have h1 := H.out
          have h2 := HW.out
          rw [HA.out] at h2
          simp at h2
          omega
      · have HA : Hid (alnV (rs s k) = letV (rs s k)) := Lib.hid (by unfold alnV; rw [if_neg h0])
        clear hc
        generalize letV (rs s k) = m at *
        have h0i : ¬ ((m : Int) = 0) := by omega
        go_wp2_with (go_at_call 84; refine LC.out.mono ?_; rintro e w1 ⟨rfl, hb1⟩)
        go_roundw
        case rel =>
          refine ⟨k + m, by omega, by go_num, ?_, hb.trans (hb1.mono hb.size)⟩
          have h1 := H.out
          have h2 := HW.out
          rw [HA.out, if_neg h0] at h2
          omega
        case measure => simp [intOf]; omega
    · have hli : ¬ (k : Int) < (s.size : Int) := by omega
      go_wp2_with fail
      go_ret
      refine ⟨ret_int ?_, hb⟩
      have h1 := H.out
      rw [rs_nil s k (by omega)] at h1
      have : wordV [] = 0 := rfl
      omega

theorem list_eq {s : ByteArray} {l : B} (h : s.toList = l) : s.data.toList = l := by rw [← Lib.toList_data]; exact h
theorem list_ne {s : ByteArray} {l : B} (h : (s.toList == l) = false) : s.data.toList ≠ l := by
  rw [← Lib.toList_data]; intro e; rw [e] at h; simp at h

set_option maxRecDepth 100000 in
set_option maxHeartbeats 3200000 in
theorem isKey_any (s : ByteArray) (w : World) : Calls Tryz.prog 116 #[.string s] w fun e w' => e = .returned (.bool (isKeyV s.data.toList)) ∧ w = w' := by
  rw [← Lib.toList_data]
  unfold isKeyV keysL
  go_enter Tryz.func116, Tryz.ntmps116
  go_wp2_with fail
  all_goals
    go_ret
    refine ⟨?_, rfl⟩
    first
      | (exfalso; simp_all; done)
      | (refine congrArg Ending.returned (congrArg Value.bool ?_); simp only [beq_iff_eq, beq_eq_false_iff_ne, ne_eq] at *; simp [*]; done)

/-- What may end a line, as a value's text tells it. -/
theorem mayV_no {k : Nat} {t : B} (h1 : k ≠ 1) (h2 : k ≠ 2) (h3 : k ≠ 3) (h4 : k ≠ 4) : mayV k t = false := by
  simp [mayV, h1, h2, h3, h4]

set_option maxRecDepth 100000 in
set_option maxHeartbeats 3200000 in
theorem mayEnd_any (k : Nat) (s : ByteArray) (a : Nat) (w : World) : Calls Tryz.prog 87 #[.agg #[.int .i64 k, .string s, .int .i64 a]] w fun e w' => e = .returned (.bool (mayV k s.data.toList)) ∧ Below w.heap.size w w' := by
  rw [← Lib.toList_data]
  obtain ⟨r, hr⟩ : ∃ r, r = mayV k s.toList := ⟨_, rfl⟩
  rw [← hr]
  unfold mayV endsL at hr
  have E := Lib.hid hr
  clear hr
  have i1 : ((k : Int) = 1) ↔ k = 1 := by omega
  have i2 : ((k : Int) = 2) ↔ k = 2 := by omega
  have i3 : ((k : Int) = 3) ↔ k = 3 := by omega
  have i4 : ((k : Int) = 4) ↔ k = 4 := by omega
  go_enter Tryz.func87, Tryz.ntmps87
  go_wp2_with fail
  all_goals
    go_ret
    refine ⟨?_, (Below.refl _ _).alloc (Nat.le_refl _) _⟩
    first
      | (exfalso; simp_all; done)
      | (refine congrArg Ending.returned (congrArg Value.bool ?_); rw [E.out]; simp [*]; done)
      | (refine congrArg Ending.returned (congrArg Value.bool ?_); rw [E.out]; simp_all; done)
end Go.Proofs.YtgonbmcojjcabaaGreatDoor

namespace Go.Proofs.YtgonbmcojjcabaaGreatDoor
open Go.RowKit Lx

/-- A text's bytes as a text. -/
def mkT (l : B) : ByteArray := ⟨l.toArray⟩
theorem mkT_list (l : B) : (mkT l).data.toList = l := rfl
theorem mkT_data (s : ByteArray) : mkT s.data.toList = s := by cases s; rfl
theorem mkT_size (l : B) : (mkT l).size = l.length := by simp [mkT, ByteArray.size]
/-- Tokens as cells. -/
def cellsT (ts : List Tok) : List Value := ts.flatMap fun t => [.int .i64 t.kind, .string (mkT t.text), .int .i64 t.at_]
theorem cellsT_snoc (ts : List Tok) (k a : Nat) (l : B) : cellsT ts ++ [.int .i64 k, .string (mkT l), .int .i64 a] = cellsT (ts ++ [⟨k, l, a⟩]) := by simp [cellsT]
theorem cellsT_length (ts : List Tok) : (cellsT ts).length = ts.length * 3 := by
  induction ts with
  | nil => rfl
  | cons p ps ih => simp only [cellsT, List.flatMap_cons, List.length_append, List.length_cons, List.length_nil] at ih ⊢; omega

/-- The cutter: its text, where it is, its tokens. -/
structure CutAt (w : World) (cb : Nat) (s : ByteArray) (a : Nat) (v : Value) (ts : List Tok) : Prop where
  c0 : w.cell? ⟨cb, 0, none⟩ = some (.string s)
  c1 : w.cell? ⟨cb, 1, none⟩ = some (.int .i64 a)
  c2 : w.cell? ⟨cb, 2, none⟩ = some v
  z1 : w.frozen? ⟨cb, 1, none⟩ = false
  z2 : w.frozen? ⟨cb, 2, none⟩ = false
  own : w.ownsRow (cb + 1) 100 3 v ts.length (cellsT ts)

variable {w w' : World} {cb a : Nat} {s : ByteArray} {v : Value} {ts : List Tok}
theorem CutAt.drewN (h : CutAt w cb s a v ts) (n : Nat) : CutAt (w.drewN n) cb s a v ts := ⟨h.c0, h.c1, h.c2, h.z1, h.z2, h.own⟩
theorem CutAt.lt (h : CutAt w cb s a v ts) : cb < w.heap.size := block_lt_of_cell h.c0
theorem CutAt.keeps {S : Nat → Prop} (h : CutAt w cb s a v ts) (k : Keeps S w w') (hr : ¬ S cb) (hs : ∀ b, v.ownBlock = some b → ¬ S b) : CutAt w' cb s a v ts :=
  ⟨k.cell_of h.c0 hr, k.cell_of h.c1 hr, k.cell_of h.c2 hr, by rw [k.frozen h.lt hr]; exact h.z1, by rw [k.frozen h.lt hr]; exact h.z2, k.row h.own hs⟩
theorem CutAt.fresh (h : CutAt w cb s a v ts) (hb : Below w.heap.size w w') : CutAt w' cb s a v ts :=
  h.keeps (S := fun _ => False) (Keeps.of_new hb) (fun h => h) (fun _ _ h => h)
theorem off_neq {x y : Nat} (h : x ≠ y) (a : Nat) : (⟨a, x, none⟩ : Addr) ≠ ⟨a, y, none⟩ := fun e => h (by injection e)
theorem CutAt.ownNe (h : CutAt w cb s a v ts) : v.ownBlock ≠ some cb := by
  rcases h.own.2 with ⟨rfl, _⟩ | ⟨g, cap, cur, rfl, hb, _⟩
  · intro e; cases e
  · intro e
    simp only [Value.ownBlock, Option.some.injEq] at e
    omega
theorem CutAt.set1 (h : CutAt w cb s a v ts) (b : Nat) : CutAt (w.setCell ⟨cb, 1, none⟩ (.int .i64 b)) cb s b v ts := by
  have hs : Keeps (fun b => b = cb) w (w.setCell ⟨cb, 1, none⟩ (.int .i64 b)) := (Keeps.refl (fun b : Nat => b = cb) w).setCell (S := fun b : Nat => b = cb) (p := ⟨cb, 1, none⟩) (Or.inl rfl) _
  refine ⟨?_, World.cell?_setCell_same _ _ _ h.c1, ?_, ?_, ?_, hs.row h.own (fun k e e2 => h.ownNe (by rw [e, e2]))⟩
  · rw [World.cell?_setCell_other _ _ _ _ (off_neq (by decide) cb)]; exact h.c0
  · rw [World.cell?_setCell_other _ _ _ _ (off_neq (by decide) cb)]; exact h.c2
  · rw [World.frozen?_setCell]; exact h.z1
  · rw [World.frozen?_setCell]; exact h.z2

theorem keeps_drewNs {S : Nat → Prop} {a w : World} (h : Keeps S a w) (n : Nat) : Keeps S a (w.drewN n) := ⟨h.os, h.tape, h.output, h.size, h.block⟩

/-- Where the line feed stands. -/
theorem index_line (l : B) : Lib.indexByte l 10 = if lineV l = l.length then -1 else (lineV l : Int) := by
  induction l with
  | nil => rfl
  | cons b r ih =>
    by_cases hb : b = 10
    · subst hb; rfl
    · have e : lineV (b :: r) = lineV r + 1 := by unfold lineV; rw [List.takeWhile_cons_of_pos (by simpa using hb)]; rfl
      by_cases h : lineV r = r.length
      · rw [if_pos h] at ih
        rw [if_pos (by rw [e, h]; rfl)]
        simp [Lib.indexByte, hb, ih]
      · rw [if_neg h] at ih
        have h2 : ¬ ((lineV r : Int) = -1) := by omega
        rw [if_neg (by rw [e, List.length_cons]; omega)]
        simp [Lib.indexByte, hb, ih, e, h2]

set_option maxRecDepth 100000 in
set_option maxHeartbeats 1600000 in
theorem lineEnd_any (w : World) (h : CutAt w cb s a v ts) (ha : a ≤ s.size) (hs : s.size ≤ 4000) :
    Calls Tryz.prog 80 #[.pointer (some ⟨cb, 0, none⟩)] w fun e w' => e = .returned (.int .i64 (a + lineV (rs s a) : Nat)) ∧ ∃ n, w' = w.drewN n := by
  have c0 := h.c0
  have c1 := h.c1
  have hle := lineV_le (rs s a)
  have hlen := rs_length s a
  have hx := index_line (rs s a)
  have IB : Hid (∀ W : World, Calls Tryz.prog 111 #[.string (s.extract a s.size), .int .u8 10] W fun e w' => e = .returned (.int .i64 (if lineV (rs s a) = (rs s a).length then -1 else (lineV (rs s a) : Int))) ∧ ∃ n, w' = W.drewN n) := Lib.hid fun W => by
    refine (Tryz.strings_IndexByte (s.extract a s.size) 10 W).mono ?_
    rintro e w' ⟨rfl, rfl⟩
    rw [rs_extract_all]
    exact ⟨by rw [← hx]; rfl, 0, rfl⟩
  have hai : (a : Int) ≤ (s.size : Int) := by omega
  clear h hx
  rw [hlen] at hle IB
  generalize lineV (rs s a) = m at *
  by_cases hm : m = s.size - a
  · rw [if_pos hm] at IB
    have e1 : ((a + m : Nat) : Int) = (s.size : Int) := by omega
    rw [e1]
    clear e1 hm hle hlen
    go_enter Tryz.func80, Tryz.ntmps80
    go_wp2_with fail
    go_quiet ((go_at_call 111; exact Calls.quiet_of (IB.out _)))
    go_wp2_with fail
    go_ret
    exact ⟨rfl, _, rfl⟩
  · rw [if_neg hm] at IB
    go_enter Tryz.func80, Tryz.ntmps80
    go_wp2_with fail
    go_quiet ((go_at_call 111; exact Calls.quiet_of (IB.out _)))
    go_wp2_with fail
    go_ret
    exact ⟨ret_int (by omega), _, rfl⟩

/-- How far blanks and remarks go. -/
def Skips (s : ByteArray) (a a' : Nat) : Prop := a ≤ a' ∧ a' ≤ s.size ∧ ∀ may, lx (rs s a) a may = lx (rs s a') a' may
/-- Neither a blank nor a remark stands there. -/
def Stands (l : B) : Prop := ∀ b r, l = b :: r → isBl b = false ∧ [47, 47].isPrefixOf l = false
theorem Skips.step {k n : Nat} (h : Skips s a k) (hk : k < s.size) (hs : ∀ may, stepV (rs s k) may = .skip n) : Skips s a (k + n) := by
  have hne : rs s k ≠ [] := by rw [rs_cons s k hk]; simp
  have hb := (Lx.step_skip hne (hs true)).2
  rw [rs_length] at hb
  refine ⟨by have := h.1; omega, by omega, fun may => ?_⟩
  rw [h.2.2 may, lx_skip hne (hs may), rs_drop]

/-- Where a cutter is. -/
def atOf (w : World) (cb : Nat) : Nat := (intOf ((w.cell? ⟨cb, 1, none⟩).getD (.int .i64 0))).toNat
theorem CutAt.atOf (h : CutAt w cb s a v ts) : atOf w cb = a := by simp [Proofs.YtgonbmcojjcabaaGreatDoor.atOf, h.c1, intOf]

set_option maxRecDepth 100000 in
set_option maxHeartbeats 3200000 in
theorem skip_any (w : World) (h : CutAt w cb s a v ts) (ha : a ≤ s.size) (hs : s.size ≤ 4000) :
    Calls Tryz.prog 54 #[.pointer (some ⟨cb, 0, none⟩)] w fun e w' => e = .returned (.tuple #[]) ∧ ∃ a', Skips s a a' ∧ Stands (rs s a') ∧ CutAt w' cb s a' v ts ∧ Keeps (fun b => b = cb) w w' := by
  have H0 := Lib.hid h
  clear h
  go_enter Tryz.func54, Tryz.ntmps54
  go_wp2_with fail
  go_loopw [] (fun wr => ∃ k : Nat, Skips s a k ∧ CutAt wr cb s k v ts ∧ Keeps (fun b => b = cb) w wr) (fun wr => s.size - atOf wr cb)
  case atStart => exact ⟨a, ⟨Nat.le_refl _, ha, fun _ => rfl⟩, H0.out, Keeps.refl _ _⟩
  case round =>
    obtain ⟨k, hk, hc, hkp⟩ := hrel
    have hks := hk.2.1
    have HK := Lib.hid hk
    have HC := Lib.hid hc
    have HP := Lib.hid hkp
    have c0 := hc.c0
    have c1 := hc.c1
    have z1 := hc.z1
    clear hk hc hkp
    have END : Hid (∀ (q n : Nat), k < s.size → (∀ may, stepV (rs s k) may = .skip n) → (∃ k1, Skips s a k1 ∧ CutAt ((wr.drewN q).setCell ⟨cb, 1, none⟩ (.int .i64 ((k + n : Nat) : Int))) cb s k1 v ts ∧ Keeps (fun b => b = cb) w ((wr.drewN q).setCell ⟨cb, 1, none⟩ (.int .i64 ((k + n : Nat) : Int)))) ∧
        s.size - atOf ((wr.drewN q).setCell ⟨cb, 1, none⟩ (.int .i64 ((k + n : Nat) : Int))) cb < s.size - atOf wr cb) := Lib.hid fun q n hlt hst => by
      have h2 := (HC.out.drewN q).set1 (k + n)
      have hne : rs s k ≠ [] := by rw [rs_cons s k hlt]; simp
      have h1 := (Lx.step_skip hne (hst true)).1
      refine ⟨⟨k + n, HK.out.step hlt hst, h2, (keeps_drewNs HP.out q).setCell (Or.inl rfl) _⟩, ?_⟩
      rw [h2.atOf, HC.out.atOf]
      omega
    by_cases hlt : k < s.size
    · have hcons := rs_cons s k hlt
      have hli : (k : Int) < (s.size : Int) := by omega
      have hii : (0 : Int) ≤ (k : Int) ∧ (k : Int) < (s.size : Int) := by omega
      have hle : (k : Int) ≤ (s.size : Int) := by omega
      have hpre := rs_extract_all s k
      by_cases hbl : isBl s[k] = true
      · have hst : ∀ may, stepV (rs s k) may = .skip 1 := fun may => by rw [hcons, stepV_cons, if_pos hbl]
        have E1 := Lib.hid (fun q => END.out q 1 hlt hst)
        have hb3 : s[k].toNat = 32 ∨ s[k].toNat = 9 ∨ s[k].toNat = 13 := by simp [isBl] at hbl; omega
        clear hbl hcons hpre hst
        go_wp2_with fail
        go_quiet (fail)
        go_wp2_with fail
        go_quiet (fail)
        rcases hb3 with h3 | h3 | h3
        · have hi3 : (s[k].toNat : Int) = 32 := by omega
          go_wp2_with fail
          exact E1.out _
        · have hi3 : (s[k].toNat : Int) = 9 := by omega
          go_wp2_with fail
          exact E1.out _
        · have hi3 : (s[k].toNat : Int) = 13 := by omega
          go_wp2_with fail
          exact E1.out _
      · have hbl' : isBl s[k] = false := by simpa using hbl
        have h32 : ¬ ((s[k].toNat : Int) = 32) := by simp [isBl] at hbl'; omega
        have h9 : ¬ ((s[k].toNat : Int) = 9) := by simp [isBl] at hbl'; omega
        have h13 : ¬ ((s[k].toNat : Int) = 13) := by simp [isBl] at hbl'; omega
        have HX : ∀ r, [47, 47].isPrefixOf (rs s k) = r → Hid (∀ q z, Calls Tryz.prog 43 #[.string (s.extract k s.size), .string ⟨#[47, 47]⟩] (wr.drewN (q + z)) fun e w' => e = .returned (.bool r) ∧ ∃ n, w' = wr.drewN (q + n)) := fun r hr => Lib.hid fun q z => by
          refine (Tryz.strings_HasPrefix (s.extract k s.size) ⟨#[47, 47]⟩ _).mono ?_
          rintro e w' ⟨rfl, rfl⟩
          rw [hpre]
          exact ⟨by rw [← hr]; rfl, z, rfl⟩
        by_cases hp : [47, 47].isPrefixOf (rs s k) = true
        · have hst : ∀ may, stepV (rs s k) may = .skip (lineV (rs s k)) := fun may => by rw [hcons] at hp ⊢; rw [stepV_cons, if_neg hbl, if_pos hp]
          have hx := HX _ hp
          have E1 := Lib.hid (fun q => END.out q (lineV (rs s k)) hlt hst)
          have HLE : Hid (∀ q, Calls Tryz.prog 80 #[.pointer (some ⟨cb, 0, none⟩)] (wr.drewN q) fun e w' => e = .returned (.int .i64 (k + lineV (rs s k) : Nat)) ∧ ∃ n, w' = (wr.drewN q).drewN n) := Lib.hid fun q => lineEnd_any _ (HC.out.drewN q) hks hs
          clear hbl hbl' hcons hpre hst HX hp
          generalize lineV (rs s k) = m at *
          go_wp2_with fail
          go_quiet (fail)
          go_wp2_with fail
          go_quiet (fail)
          go_wp2_with fail
          go_quiet ((go_at_call 43; exact hx.out _ _))
          go_wp2_with fail
          refine (HLE.out _).mono ?_
          rintro e w' ⟨rfl, q, rfl⟩
          go_wp2_with fail
          exact E1.out _
        · have hp' : [47, 47].isPrefixOf (rs s k) = false := Bool.eq_false_iff.2 hp
          have hx := HX _ hp'
          have hst : Stands (rs s k) := fun b r e => by
            rw [hcons] at e
            cases e
            exact ⟨hbl', hp'⟩
          have HS := Lib.hid hst
          clear hbl hbl' hcons hpre hst HX hp hp'
          go_wp2_with fail
          go_quiet (fail)
          go_wp2_with fail
          go_quiet (fail)
          go_wp2_with fail
          go_quiet ((go_at_call 43; exact hx.out _ _))
          go_wp2_with fail
          try simp only [Exit.inBlock, Exit.then]
          refine bodyPost_ret (results_none rfl _ _ _) rfl ?_
          exact ⟨rfl, k, HK.out, HS.out, (HC.out.drewN _).drewN _, keeps_drewNs (keeps_drewNs HP.out _) _⟩
    · have hli : ¬ (k : Int) < (s.size : Int) := by omega
      have HS : Hid (Stands (rs s k)) := Lib.hid (by rw [rs_nil s k (by omega)]; intro b r e; cases e)
      go_wp2_with fail
      go_quiet (fail)
      go_wp2_with fail
      go_end0
      exact ⟨rfl, k, HK.out, HS.out, HC.out.drewN _, keeps_drewNs HP.out _⟩
end Go.Proofs.YtgonbmcojjcabaaGreatDoor

namespace Go.Proofs.YtgonbmcojjcabaaGreatDoor
open Go.RowKit Lx Go.Maps

theorem tinfo {i : Option TypeInfo} {z : Value} {n m : Nat} (h : i.map (fun i => (i.zero, i.size, i.bytes)) = some (some z, n, m)) : ∃ i0, i = some i0 ∧ i0.zero = some z ∧ i0.size = n ∧ i0.bytes = m := by
  cases i with
  | none => cases h
  | some i0 =>
    simp only [Option.map_some, Option.some.injEq, Prod.mk.injEq] at h
    exact ⟨i0, rfl, h.1, h.2.1, h.2.2⟩
theorem info_token : (Tryz.prog.info? 100).map (fun i => (i.zero, i.size, i.bytes)) = some (some (.agg #[.int .i64 0, .string ByteArray.empty, .int .i64 0]), 3, 32) := by kernel_rfl
theorem cell_three_new (w : World) (x y z : Value) (t : TypeId) : ∀ j u, [x, y, z][j]? = some u → (w.alloc (.cells #[x, y, z] t)).cell? ((⟨w.heap.size, 0, none⟩ : Addr).add j) = some u := by
  intro j u hj
  match j, hj with
  | 0, hj => simp at hj; subst hj; simp [Addr.add]
  | 1, hj => simp at hj; subst hj; simp [Addr.add]
  | 2, hj => simp at hj; subst hj; simp [Addr.add]

/-- 'append(s, e)' on a row of the call's own tokens, as one step of a region that draws. -/
theorem step_appendT {ops : Array Oper} {o : Oper} {a : Act} {w : World} {K : Act → World → Prop} {Q : Exit → Act → World → Prop} {E : Prop}
    (hg : o.guard = none) (s x : Operand) (hop : o.op = Op.call { callee := Callee.builtin Builtin.append, args := #[s, x], argTypes := #[53, 53] })
    (i : TypeInfo) (h2 : Tryz.prog.info? 100 = some i) (h3 : i.zero = some (.agg #[.int .i64 0, .string ByteArray.empty, .int .i64 0])) (h4 : i.size = 3) (h5 : i.bytes = 32)
    (base : Nat) (v : Value) (n : Nat) (xs : List Value) (hown : w.ownsRow base 100 3 v n xs) (hn : n ≤ 10000) (hbase : base ≤ w.heap.size)
    (ad : Addr) (x1 x3 : Int) (x2 : ByteArray) (hc : ∀ j u, [Value.int .i64 x1, Value.string x2, Value.int .i64 x3][j]? = some u → w.cell? (ad.add j) = some u)
    (hs : a.eval s = v) (hx : a.eval x = .slice (some ad) 1 1)
    (hK : ∀ ao' cap' w', w'.ownsRow base 100 3 (.slice ao' (n + 1) cap') (n + 1) (xs ++ [Value.int .i64 x1, Value.string x2, Value.int .i64 x3]) → w.grownBy w' v.ownBlock → K (a.put o.dst (.slice ao' (n + 1) cap')) w') :
    if Region.wanted o (yielded ops a.tmps) = true then Oper.wp Tryz.prog o a w K Q else E := by
  have hw : Region.wanted o (yielded ops a.tmps) = true := by simp [Region.wanted, hg]
  rw [if_pos hw]
  obtain ⟨v', w', hrun, r1, r2, _, r4⟩ := run_append_own_at (P := Tryz.prog) w base 53 o.type 100 i (.agg #[.int .i64 0, .string ByteArray.empty, .int .i64 0]) 3 32 Tryz.underlying53 h2 h3 h4 h5 rfl (by decide) v n xs hown ad 1 1 [.int .i64 x1, .string x2, .int .i64 x3] rfl hc
    (fun u hu => by simp at hu; rcases hu with rfl | rfl | rfl <;> rfl) (by unfold maxLen; omega) (by omega) hbase
  have hv' : ∃ ao' cap', v' = .slice ao' (n + 1) cap' := by
    rcases r1.2 with ⟨_, h0⟩ | ⟨g, cap', cur, rfl, _⟩
    · omega
    · exact ⟨_, _, rfl⟩
  obtain ⟨ao', cap', rfl⟩ := hv'
  unfold Oper.wp
  simp [execOp, hop, resolve, invoke, builtin, hs, hx, hrun, Result.andThen]
  exact hK _ _ _ r1 r2

variable {w w' : World} {cb a : Nat} {s : ByteArray} {v : Value} {ts : List Tok}
theorem undrewG4 {w w' : World} {r : Option Nat} (h : w.drew.grownBy w' r) : w.grownBy w' r := ⟨h.os, h.tape, h.output, h.size, h.block⟩
/-- What a new token makes of the cutter. -/
theorem CutAt.pushed {w0 : World} {k at_ : Nat} {l : B} {v' : Value} (h : CutAt w0 cb s a v ts) (hk : Keeps (fun b => v.ownBlock = some b) w0 w')
    (ho : w'.ownsRow (cb + 1) 100 3 v' (ts.length + 1) (cellsT ts ++ [.int .i64 k, .string (mkT l), .int .i64 at_])) : CutAt (w'.setCell ⟨cb, 2, none⟩ v') cb s a v' (ts ++ [⟨k, l, at_⟩]) := by
  have hne := h.ownNe
  have hs : Keeps (fun b => b = cb) w' (w'.setCell ⟨cb, 2, none⟩ v') := (Keeps.refl (fun b : Nat => b = cb) w').setCell (S := fun b : Nat => b = cb) (p := ⟨cb, 2, none⟩) (Or.inl rfl) _
  have hv' : v'.ownBlock ≠ some cb := by
    rcases ho.2 with ⟨rfl, _⟩ | ⟨g, cap, cur, rfl, hb, _⟩
    · intro e; cases e
    · intro e
      simp only [Value.ownBlock, Option.some.injEq] at e
      omega
  refine ⟨?_, ?_, World.cell?_setCell_same _ _ _ (hk.cell_of h.c2 hne), ?_, ?_, ?_⟩
  · rw [World.cell?_setCell_other _ _ _ _ (off_neq (by decide) cb)]; exact hk.cell_of h.c0 hne
  · rw [World.cell?_setCell_other _ _ _ _ (off_neq (by decide) cb)]; exact hk.cell_of h.c1 hne
  · rw [World.frozen?_setCell, hk.frozen h.lt hne]; exact h.z1
  · rw [World.frozen?_setCell, hk.frozen h.lt hne]; exact h.z2
  · rw [List.length_append, ← cellsT_snoc]
    exact hs.row ho (fun k e e2 => hv' (by rw [e, e2]))

set_option maxRecDepth 100000 in
set_option maxHeartbeats 800000 in
theorem clone_any (t : ByteArray) (W : World) (hs : t.size ≤ 4000) : Calls Tryz.prog 112 #[.string t] W fun e w' => e = .returned (.string t) ∧ Below W.heap.size W w' := by
  go_enter Tryz.func112, Tryz.ntmps112
  go_wp2_with (go_at_call 147; refine (Tryz.stringslite_Clone t _ (by omega)).mono ?_; rintro e w1 ⟨rfl, hb1⟩)
  go_ret
  exact ⟨rfl, hb1⟩
set_option maxRecDepth 100000 in
set_option maxHeartbeats 3200000 in
theorem take_any (k n : Nat) (w : World) (h : CutAt w cb s a v ts) (ha : a + n ≤ s.size) (hs : s.size ≤ 4000) (hl : ts.length ≤ 5000) :
    Calls Tryz.prog 81 #[.pointer (some ⟨cb, 0, none⟩), .int .i64 k, .int .i64 n] w fun e w' => e = .returned (.tuple #[]) ∧ ∃ v', CutAt w' cb s (a + n) v' (ts ++ [⟨k, (rs s a).take n, a⟩]) ∧ Below cb w w' := by
  have H0 := Lib.hid h
  have c0 := h.c0
  have c1 := h.c1
  obtain ⟨i0, hi, hz0, hz1, hz2⟩ := tinfo info_token
  have he : (s.extract a (a + n)).size ≤ 4000 := by rw [ByteArray.size_extract]; omega
  have hxl : s.extract a (a + n) = mkT ((rs s a).take n) := by
    rw [← mkT_data (s.extract a (a + n)), rs_extract]; congr 2; omega
  have hai : (a : Int) ≤ (a : Int) + (n : Int) := by omega
  have hbi : (0 : Int) ≤ (a : Int) + (n : Int) ∧ (a : Int) + (n : Int) ≤ (s.size : Int) := by omega
  have hti : ((a : Int) + (n : Int)).toNat = a + n := by omega
  have CL : Hid (∀ W, Calls Tryz.prog 112 #[.string (s.extract a (a + n))] W fun e w' => e = .returned (.string (mkT ((rs s a).take n))) ∧ Below W.heap.size W w') := Lib.hid fun W => by
    have := clone_any (s.extract a (a + n)) W he
    rw [hxl] at this ⊢
    exact this
  clear h hxl he
  have e1 : IntKind.i64.wrap ((a : Int) + (n : Int)) = (a : Int) + (n : Int) := by rw [IntKind.wrap_i64]; omega
  go_enter Tryz.func81, Tryz.ntmps81
  go_wp2_with fail
  go_still_tail 15, (by kernel_rfl)
  change wpList _ _ _ _ _ w.drew
  go_wp2_with (go_at_call 112; refine (CL.out _).mono ?_; rintro e w1 ⟨rfl, hb1⟩)
  have H1 := Lib.hid (H0.out.fresh (w' := w1) ⟨hb1.os, hb1.tape, hb1.output, hb1.size, hb1.block⟩)
  have HB1 : Hid (Below cb w w1) := Lib.hid ⟨hb1.os, hb1.tape, hb1.output, hb1.size, fun k hk => hb1.block k (Nat.lt_trans hk H0.out.lt)⟩
  clear hb1 c0 c1
  generalize hT : mkT ((rs s a).take n) = T at *
  have HTE := Lib.hid hT
  clear hT
  have hlt1 := H1.out.lt
  have c1 : (w1.alloc (.cells #[.int .i64 k, .string T, .int .i64 a] 100)).cell? ⟨cb, 1, none⟩ = some (.int .i64 a) := by rw [World.cell?_alloc_lt _ _ _ hlt1]; exact H1.out.c1
  have c2 : (w1.alloc (.cells #[.int .i64 k, .string T, .int .i64 a] 100)).cell? ⟨cb, 2, none⟩ = some v := by rw [World.cell?_alloc_lt _ _ _ hlt1]; exact H1.out.c2
  have d1 := H1.out.c1
  have d2 := H1.out.c2
  have hcb : cb ≠ w1.heap.size := Nat.ne_of_lt hlt1
  have HOWN : Hid ((w1.alloc (.cells #[.int .i64 k, .string T, .int .i64 a] 100)).drew.ownsRow (cb + 1) 100 3 v ts.length (cellsT ts)) := Lib.hid (World.ownsRow.alloc H1.out.own _)
  have HC : Hid (∀ j u, [Value.int .i64 k, Value.string T, Value.int .i64 a][j]? = some u → (w1.alloc (.cells #[.int .i64 k, .string T, .int .i64 a] 100)).drew.cell? ((⟨w1.heap.size, 0, none⟩ : Addr).add j) = some u) := Lib.hid (cell_three_new w1 _ _ _ _)
  have HSZ2 : Hid (cb + 1 ≤ (w1.alloc (.cells #[.int .i64 k, .string T, .int .i64 a] 100)).drew.heap.size) := Lib.hid (by simp; omega)
  have HKP : Hid (∀ w3 : World, (w1.alloc (.cells #[.int .i64 k, .string T, .int .i64 a] 100)).drew.grownBy w3 v.ownBlock → Keeps (fun b => v.ownBlock = some b) w1 w3) := Lib.hid fun w3 hg =>
    ((Keeps.refl (fun b => v.ownBlock = some b) w1).alloc _).trans' (Keeps.of_grownBy (undrewG4 hg) fun k _ e => e) fun _ _ e => e
  have HFZ : Hid (∀ w3 : World, Keeps (fun b => v.ownBlock = some b) w1 w3 → w3.cell? ⟨cb, 2, none⟩ = some v ∧ w3.frozen? ⟨cb, 2, none⟩ = false ∧ w3.cell? ⟨cb, 1, none⟩ = some (.int .i64 a)) := Lib.hid fun w3 hk =>
    ⟨hk.cell_of H1.out.c2 H1.out.ownNe, by rw [hk.frozen (p := ⟨cb, 2, none⟩) H1.out.lt H1.out.ownNe]; exact H1.out.z2, hk.cell_of H1.out.c1 H1.out.ownNe⟩
  have hl2 : ts.length ≤ 10000 := by omega
  go_region_law (refine step_appendT rfl (.tmp 27) (.tmp 35) rfl i0 hi hz0 hz1 hz2 (cb + 1) v ts.length (cellsT ts) HOWN.out hl2 HSZ2.out ⟨w1.heap.size, 0, none⟩ k a T HC.out (by simp [Act.eval]) (by simp [Act.eval]) ?_; intro ao' cap' w3 hown3 hgrow3; have hk3 := HKP.out _ hgrow3; obtain ⟨c23, z23, c13⟩ := HFZ.out _ hk3; have HK3 := Lib.hid hk3; have HO3 := Lib.hid hown3; clear hk3 hown3 hgrow3)
  all_goals
    have hp := H1.out.pushed (w' := w3) (l := (rs s a).take n) HK3.out (by rw [HTE.out]; exact HO3.out)
    have HP := Lib.hid hp
    have c1 := hp.c1
    have z1 := hp.z1
    clear hp
    go_wp2_with fail
    go_end0
    refine ⟨rfl, _, HP.out.set1 (a + n), ?_⟩
    have hB : Below cb w1 (w3.setCell ⟨cb, 2, none⟩ (.slice ao' (ts.length + 1) cap')) := by
      refine (Keeps.below (S := fun b => v.ownBlock = some b) HK3.out (Nat.le_of_lt H1.out.lt) ?_).setCell (Nat.le_refl _) _
      intro k _ hk
      rcases H1.out.own.2 with ⟨rfl, _⟩ | ⟨g, cap, cur, rfl, hb, _⟩
      · cases hk
      · simp only [Value.ownBlock, Option.some.injEq] at hk; omega
    exact (HB1.out.trans hB).setCell (Nat.le_refl _) _
end Go.Proofs.YtgonbmcojjcabaaGreatDoor

namespace Go.Proofs.YtgonbmcojjcabaaGreatDoor
open Go.RowKit Lx

/-- What strconv.ErrRange holds. -/
def ErrR (w : World) : Prop := ∃ tp p, w.cell? ⟨8, 0, none⟩ = some (.iface tp p)
/-- The table of signs. -/
def Sgs (w : World) : Prop := ∀ n : Nat, n < 28 → w.cell? ⟨3, n, none⟩ = some (.string (mkT (sigsL.getD n [])))
/-- The variables that package lex reads, all below block n. -/
structure LexEnv (n : Nat) (w : World) : Prop where
  tabs : Tabs w
  errR : ErrR w
  sgs : Sgs w
  b1 : 4 < n
  b2 : 5 < n
  b3 : 8 < n
  b4 : 3 < n
theorem LexEnv.below {n m : Nat} {w w' : World} (h : LexEnv n w) (hb : Below m w w') (hm : n ≤ m) : LexEnv n w' := by
  have h1 := h.b1; have h2 := h.b2; have h3 := h.b3; have h4 := h.b4
  refine ⟨h.tabs.below hb (by omega) (by omega), ?_, fun k hk => ?_, h1, h2, h3, h4⟩
  · obtain ⟨tp, p, hc⟩ := h.errR
    exact ⟨tp, p, by rw [hb.cell (p := ⟨8, 0, none⟩) (show 8 < m by omega)]; exact hc⟩
  · rw [hb.cell (p := ⟨3, k, none⟩) (show 3 < m by omega)]; exact h.sgs k hk
theorem LexEnv.drewN {n : Nat} {w : World} (h : LexEnv n w) (q : Nat) : LexEnv n (w.drewN q) := ⟨h.tabs, h.errR, h.sgs, h.b1, h.b2, h.b3, h.b4⟩
theorem LexEnv.mono {n m : Nat} {w : World} (h : LexEnv n w) (hm : n ≤ m) : LexEnv m w := by
  have h1 := h.b1; have h2 := h.b2; have h3 := h.b3; have h4 := h.b4
  exact ⟨h.tabs, h.errR, h.sgs, by omega, by omega, by omega, by omega⟩

/-- An error with its place. -/
def AtErr (w : World) (cb : Nat) (x : Value) (r a : Nat) : Prop :=
  ∃ b, x = .iface 107 (.pointer (some ⟨b, 0, none⟩)) ∧ cb < b ∧ w.cell? ⟨b, 0, none⟩ = some (.int .i64 r) ∧ w.cell? ⟨b, 1, none⟩ = some (.int .i64 a)

variable {w w' : World} {cb a : Nat} {s : ByteArray} {v : Value} {ts : List Tok}
set_option maxRecDepth 100000 in
set_option maxHeartbeats 800000 in
theorem wrong_any (r : Nat) (w : World) (h : CutAt w cb s a v ts) :
    Calls Tryz.prog 113 #[.pointer (some ⟨cb, 0, none⟩), .int .i64 r] w fun e w' => ∃ x, e = .returned x ∧ AtErr w' cb x r a ∧ Below w.heap.size w w' := by
  have c1 := h.c1
  have hlt := h.lt
  clear h
  go_enter Tryz.func113, Tryz.ntmps113
  go_wp2_with fail
  go_ret
  exact ⟨_, rfl, ⟨_, rfl, hlt, by simp, by simp⟩, (Below.refl _ _).alloc (Nat.le_refl _) _⟩

/-- What a cut comes to. -/
def CutSays (w' : World) (cb : Nat) (s : ByteArray) (a : Nat) (ts : List Tok) (e : Ending) : Cut → Prop
  | .tok k n => e = .returned .nilIface ∧ ∃ v', CutAt w' cb s (a + n) v' (ts ++ [⟨k, (rs s a).take n, a⟩])
  | .err r => ∃ x, e = .returned x ∧ AtErr w' cb x r a

/-! Numbers. -/
theorem dg_all (l : B) : ∀ b ∈ l.takeWhile isDg, isDg b = true := fun b hb => by
  induction l with
  | nil => cases hb
  | cons c r ih =>
    by_cases h : isDg c
    · rw [List.takeWhile_cons_of_pos h] at hb
      rcases List.mem_cons.1 hb with rfl | hb
      · exact h
      · exact ih hb
    · rw [List.takeWhile_cons_of_neg h] at hb; cases hb
def numF (acc : Nat) (d : B) : Nat := d.foldl (fun n b => n * 10 + (b.toNat - 48)) acc
theorem numF_ge (d : B) : ∀ acc, acc ≤ numF acc d := by
  induction d with
  | nil => intro acc; exact Nat.le_refl _
  | cons b r ih => intro acc; exact Nat.le_trans (by omega) (ih (acc * 10 + (b.toNat - 48)))
theorem parseM_digits (d : B) (h : ∀ b ∈ d, isDg b = true) : ∀ acc, acc ≤ 18446744073709551615 → Lib.parseUintM 18446744073709551615 acc d = if numF acc d ≤ 18446744073709551615 then .ok (numF acc d) else .range := by
  induction d with
  | nil => intro acc hacc; unfold Lib.parseUintM numF; rw [List.foldl_nil, if_pos hacc]
  | cons b r ih =>
    intro acc hacc
    have hb := h b (List.mem_cons_self ..)
    have hd : 48 ≤ b.toNat ∧ b.toNat ≤ 57 := by simp [isDg] at hb; exact hb
    have e : numF acc (b :: r) = numF (acc * 10 + (b.toNat - 48)) r := rfl
    have hg := numF_ge r (acc * 10 + (b.toNat - 48))
    unfold Lib.parseUintM
    rw [if_pos hd, e]
    by_cases h1 : 1844674407370955162 ≤ acc
    · rw [if_pos h1, if_neg (by omega)]
    · rw [if_neg h1]
      by_cases h2 : 18446744073709551615 < acc * 10 + (b.toNat - 48)
      · rw [if_pos h2, if_neg (by omega)]
      · rw [if_neg h2]
        exact ih (fun c hc => h c (List.mem_cons_of_mem _ hc)) _ (by omega)
theorem parse_digits (d : B) (h : ∀ b ∈ d, isDg b = true) (hne : d ≠ []) : Lib.parseIntB 64 d = if bigV d then .range else .ok ((numV d : Nat) : Int) := by
  cases d with
  | nil => exact absurd rfl hne
  | cons c r =>
    have hc := h c (List.mem_cons_self ..)
    have hd : 48 ≤ c.toNat ∧ c.toNat ≤ 57 := by simp [isDg] at hc; exact hc
    have e : Lib.parseUintB 64 (c :: r) = if numV (c :: r) ≤ 18446744073709551615 then .ok (numV (c :: r)) else .range := by
      have := parseM_digits (c :: r) h 0 (by omega)
      unfold Lib.parseUintB
      rw [if_neg (by simp)]
      exact this
    have h45 : ¬ c.toNat = 45 := by omega
    have h43 : ¬ (c.toNat = 43 ∨ c.toNat = 45) := by omega
    unfold Lib.parseIntB bigV
    simp only [if_neg h43]
    rw [e]
    by_cases h1 : numV (c :: r) ≤ 18446744073709551615
    · rw [if_pos h1]
      simp only [h45, not_false_eq_true, true_and, false_and, if_false]
      by_cases h2 : 9223372036854775807 < numV (c :: r)
      · rw [if_pos (by omega), if_pos (by simpa using h2)]
      · rw [if_neg (by omega), if_neg (by simpa using h2)]
    · rw [if_neg h1, if_pos (by simp; omega)]

set_option maxRecDepth 100000 in
theorem parse_any (d : ByteArray) (hd : ∀ b ∈ d.data.toList, isDg b = true) (h1 : 0 < d.size) (h2 : d.size ≤ 4000) (W : World) (hE : ErrR W) :
    Calls Tryz.prog 114 #[.string d, .int .i64 10, .int .i64 64] W fun e w' => (∃ n x, e = .returned (.tuple #[.int .i64 n, x]) ∧ if bigV d.data.toList = true then ∃ p, x = .iface 212 p else x = .nilIface) ∧ Below W.heap.size W w' := by
  have hp := parse_digits d.data.toList hd (by intro e; have : d.data.toList.length = d.size := by simp
                                               rw [e] at this; simp at this; omega)
  by_cases hb : bigV d.data.toList = true
  · rw [if_pos hb] at hp
    obtain ⟨tp, p, hc⟩ := hE
    refine (Tryz.strconv_ParseInt_10_at64_range d (by omega) hp _ W hc (Or.inr ⟨tp, p, rfl⟩)).mono ?_
    rintro e w' ⟨N, rfl, -, -, hbl⟩
    exact ⟨⟨_, _, rfl, by rw [if_pos hb]; exact ⟨_, rfl⟩⟩, hbl⟩
  · rw [if_neg hb] at hp
    refine (Tryz.strconv_ParseInt_10_at64_ok d (by omega) _ hp W).mono ?_
    rintro e w' ⟨rfl, hw⟩
    refine ⟨⟨_, _, rfl, by rw [if_neg hb]⟩, ?_⟩
    rcases hw with rfl | ⟨t, rfl⟩
    · exact Below.refl _ _
    · exact Lib.bytesWorld_below _ _ _
end Go.Proofs.YtgonbmcojjcabaaGreatDoor

namespace Go.Proofs.YtgonbmcojjcabaaGreatDoor
open Go.RowKit Lx
variable {w w' : World} {cb a : Nat} {s : ByteArray} {v : Value} {ts : List Tok}

theorem digV_step (s : ByteArray) (k : Nat) (h : k < s.size) : digV (rs s k) = if isDg s[k] = true then digV (rs s (k + 1)) + 1 else 0 := by
  rw [rs_cons s k h]
  by_cases hd : isDg s[k] = true
  · rw [if_pos hd, digV_cons hd]
  · rw [if_neg hd, digV_no (by simpa using hd)]

set_option maxRecDepth 100000 in
set_option maxHeartbeats 12800000 in
theorem cutNumber_any (w : World) (h : CutAt w cb s a v ts) (ha : a < s.size) (hs : s.size ≤ 4000) (hl : ts.length ≤ 5000) (hE : LexEnv cb w) (hd : isDg s[a] = true) :
    Calls Tryz.prog 83 #[.pointer (some ⟨cb, 0, none⟩)] w fun e w' => CutSays w' cb s a ts e (numCut (rs s a)) ∧ Below cb w w' := by
  have H0 := Lib.hid h
  have HE := Lib.hid hE
  have c0 := h.c0
  have c1 := h.c1
  have hcb := h.lt
  have hn0 := digV_step s a ha
  rw [if_pos hd] at hn0
  have hnl := digV_le (rs s a)
  rw [rs_length] at hnl
  obtain ⟨n, hn⟩ : ∃ n, n = digV (rs s a) := ⟨_, rfl⟩
  obtain ⟨z, hz⟩ : ∃ z, z = a + n := ⟨_, rfl⟩
  have HD : Hid (∀ b ∈ (rs s a).take n, isDg b = true) := Lib.hid (by rw [hn, digV_take]; exact dg_all _)
  have HNC : Hid (numCut (rs s a) = if (1 < n ∧ s[a] = 48) ∨ 0 < letV (rs s z) then .err 3 else if bigV ((rs s a).take n) then .err 2 else .tok 3 n) := Lib.hid (by
    unfold numCut
    rw [← hn, rs_drop, ← hz, rs_cons s a ha]
    simp only [List.head?_cons, Option.some.injEq])
  rw [← hn] at hn0 hnl
  have HN := Lib.hid hn
  have HZ := Lib.hid hz
  have hn1 : 1 ≤ n := by omega
  have hza : a ≤ z := by omega
  have hzs : z ≤ s.size := by omega
  have HDL : Hid ((s.extract a z).data.toList = (rs s a).take n) := Lib.hid (by rw [rs_extract]; congr 1; omega)
  have hsz : (s.extract a z).size = n := by rw [ByteArray.size_extract]; omega
  have hpos : 0 < (s.extract a z).size := by rw [hsz]; exact hn1
  have h0 : (s.extract a z)[0]'hpos = s[a] := by
    have h1 := rs_cons (s.extract a z) 0 hpos
    have h2 : rs (s.extract a z) 0 = (rs s a).take n := by
      show (s.extract a z).data.toList.drop 0 = _
      rw [List.drop_zero]; exact HDL.out
    rw [h2, rs_cons s a ha] at h1
    obtain ⟨m, rfl⟩ : ∃ m, n = m + 1 := ⟨n - 1, by omega⟩
    rw [List.take_succ_cons] at h1
    exact (List.cons.inj h1).1.symm
  have HSZ := Lib.hid hsz
  clear h hE hn0 hn hz hsz
  have WR : Hid (∀ (r : Nat) (W : World), CutAt W cb s a v ts → Calls Tryz.prog 113 #[.pointer (some ⟨cb, 0, none⟩), .int .i64 r] W fun e w' => ∃ x, e = .returned x ∧ AtErr w' cb x r a ∧ Below W.heap.size W w') := Lib.hid fun r W hW => wrong_any r W hW
  have LT : Hid (∀ q, Calls Tryz.prog 84 #[.string s, .int .i64 z] (w.drewN q) fun e w' => e = .returned (.int .i64 (letV (rs s z))) ∧ Below (w.drewN q).heap.size (w.drewN q) w') := Lib.hid fun q => letter_any s z _ (by omega) (HE.out.drewN q).tabs
  go_enter Tryz.func83, Tryz.ntmps83
  go_wp2_with fail
  go_loop [3] (fun i => ∃ k : Nat, a ≤ k ∧ k ≤ s.size ∧ i = .int .i64 k ∧ z = k + digV (rs s k)) (fun i => s.size - (intOf i).toNat)
  case atStart => exact ⟨a, Nat.le_refl _, by omega, rfl, by rw [HZ.out, HN.out]⟩
  case round =>
    obtain ⟨k, hk1, hk2, rfl, hk⟩ := hrel
    have HKK := Lib.hid hk
    have hor : (∃ h : k < s.size, isDg s[k] = true) ∨ (k = z ∧ (∀ h : k < s.size, isDg s[k] = false)) := by
      by_cases hlt : k < s.size
      · have hst := digV_step s k hlt
        by_cases hdk : isDg s[k] = true
        · exact Or.inl ⟨hlt, hdk⟩
        · rw [if_neg hdk] at hst
          exact Or.inr ⟨by omega, fun _ => by simpa using hdk⟩
      · have : digV (rs s k) = 0 := by rw [rs_nil s k (by omega)]; rfl
        exact Or.inr ⟨by omega, fun h => absurd h hlt⟩
    clear hk
    rcases hor with ⟨hlt, hdk⟩ | ⟨rfl, hnd⟩
    · have hst := digV_step s k hlt
      have hli : (k : Int) < (s.size : Int) := by omega
      have hii : (0 : Int) ≤ (k : Int) ∧ (k : Int) < (s.size : Int) := by omega
      have HDG := fun w => isDigit_any s[k] w
      rw [hdk] at HDG
      rw [if_pos hdk] at hst
      have HST := Lib.hid hst
      clear hst hdk
      go_wp2_with (go_at_call 82; refine (HDG _).mono ?_; rintro e w2 ⟨rfl, rfl⟩)
      go_round
      case rel =>
        refine ⟨k + 1, by omega, by omega, by go_num, ?_⟩
        have h1 := HKK.out
        have h2 := HST.out
        omega
      case measure => simp [intOf]; omega
    · have HND := Lib.hid hnd
      clear hnd
      have hzi : (0 : Int) ≤ (k : Int) ∧ (k : Int) ≤ (s.size : Int) := by omega
      have hai : (a : Int) ≤ (k : Int) := by omega
      rcases Nat.lt_or_ge k s.size with hlt | hlt
      all_goals
        first
          | (have hli : (k : Int) < (s.size : Int) := by omega
             have hii : (0 : Int) ≤ (k : Int) ∧ (k : Int) < (s.size : Int) := by omega
             have HDG := fun w => isDigit_any (s[k]'hlt) w
             rw [HND.out hlt] at HDG
             go_wp2_with (go_at_call 82; refine (HDG _).mono ?_; rintro e w2 ⟨rfl, rfl⟩)
             clear HDG)
          | (have hli : ¬ (k : Int) < (s.size : Int) := by omega
             go_wp2_with fail)
      all_goals
        go_quiet (fail)
        generalize s.extract a k = D at *
        have hsz := HSZ.out
        subst hsz
        have BL : Hid (∀ (q : Nat) (w1 : World), Below (w.drewN q).heap.size (w.drewN q) w1 → Below cb w w1) := Lib.hid fun q w1 hb => ⟨hb.os, hb.tape, hb.output, hb.size, fun k hk => hb.block k (Nat.lt_trans hk hcb)⟩
        have CF : Hid (∀ (q : Nat) (w1 : World), Below (w.drewN q).heap.size (w.drewN q) w1 → CutAt w1 cb s a v ts ∧ LexEnv cb w1) := Lib.hid fun q w1 hb => ⟨(H0.out.drewN q).fresh hb, (HE.out.drewN q).below hb (Nat.le_of_lt hcb)⟩
        have PA : Hid (∀ W : World, ErrR W → Calls Tryz.prog 114 #[.string D, .int .i64 10, .int .i64 64] W fun e w' => (∃ n x, e = .returned (.tuple #[.int .i64 n, x]) ∧ if bigV D.data.toList = true then ∃ p, x = .iface 212 p else x = .nilIface) ∧ Below W.heap.size W w') :=
          Lib.hid fun W hW => parse_any D (by rw [HDL.out]; exact HD.out) hpos (by omega) W hW
        have TK : Hid (∀ W : World, CutAt W cb s a v ts → Calls Tryz.prog 81 #[.pointer (some ⟨cb, 0, none⟩), .int .i64 3, .int .i64 D.size] W fun e w' => e = .returned (.tuple #[]) ∧ ∃ v', CutAt w' cb s (a + D.size) v' (ts ++ [⟨3, (rs s a).take D.size, a⟩]) ∧ Below cb W w') :=
          Lib.hid fun W hW => take_any 3 D.size W hW (by have := HZ.out; omega) hs hl
        have hor2 : (1 < D.size ∧ s[a] = 48) ∨ (1 < D.size ∧ s[a] ≠ 48) ∨ ¬ 1 < D.size := by
          by_cases h1 : 1 < D.size
          · by_cases h2 : s[a] = 48
            · exact Or.inl ⟨h1, h2⟩
            · exact Or.inr (Or.inl ⟨h1, h2⟩)
          · exact Or.inr (Or.inr h1)
        have HDT : Hid (bigV ((rs s a).take D.size) = bigV D.data.toList) := Lib.hid (by rw [HDL.out])
        clear HD HN HSZ HDL hnl hn1 HKK HND
        rcases hor2 with ⟨h1, h2⟩ | hor2
        · have hi1 : (1 : Int) < (D.size : Int) := by omega
          have hi2 : (s[a].toNat : Int) = 48 := by rw [h2]; rfl
          have HR : Hid (numCut (rs s a) = .err 3) := Lib.hid (by rw [HNC.out, if_pos (Or.inl ⟨h1, h2⟩)])
          go_wp2_with (go_at_call 113; refine (WR.out 3 _ (H0.out.drewN _)).mono ?_; rintro e w1 ⟨x, rfl, hat, hb1⟩)
          go_ret
          rw [HR.out]
          exact ⟨⟨x, rfl, hat⟩, BL.out _ _ hb1⟩
        · have hno : ¬ (1 < D.size ∧ s[a] = 48) := by
            rintro ⟨g1, g2⟩
            rcases hor2 with ⟨_, h⟩ | h
            · exact h g2
            · exact h g1
          have HR : Hid (numCut (rs s a) = if 0 < letV (rs s k) then .err 3 else if bigV D.data.toList then .err 2 else .tok 3 D.size) := Lib.hid (by
            rw [HNC.out, HDT.out]
            by_cases hL : 0 < letV (rs s k)
            · rw [if_pos (Or.inr hL), if_pos hL]
            · rw [if_neg (fun h => by rcases h with h | h; exact hno h; exact hL h), if_neg hL])
          clear hno HNC
          have hor3 : (((1 : Int) < (D.size : Int)) ∧ ¬ ((s[a].toNat : Int) = 48)) ∨ ¬ ((1 : Int) < (D.size : Int)) := by
            rcases hor2 with ⟨g1, g2⟩ | g1
            · refine Or.inl ⟨by omega, fun e => g2 ?_⟩
              exact UInt8.toNat_inj.1 (by have : (48 : UInt8).toNat = 48 := rfl; omega)
            · exact Or.inr (by omega)
          clear hor2
          generalize letV (rs s k) = L at *
          by_cases hL : 0 < L
          · have hLi : (0 : Int) < (L : Int) := by omega
            rw [if_pos hL] at HR
            rcases hor3 with ⟨g1, g2⟩ | g1
            all_goals
              go_wp2_with (first | (go_at_call 84; refine (LT.out _).mono ?_; rintro e w1 ⟨rfl, hb1⟩) | (go_at_call 113; refine (WR.out 3 _ (CF.out _ _ hb1).1).mono ?_; rintro e w2 ⟨x, rfl, hat, hb2⟩))
              go_ret
              rw [HR.out]
              exact ⟨⟨x, rfl, hat⟩, (BL.out _ _ hb1).trans (hb2.mono (by have := (CF.out _ _ hb1).1.lt; omega))⟩
          · have hLi : ¬ (0 : Int) < (L : Int) := by omega
            rw [if_neg hL] at HR
            by_cases hB : bigV D.data.toList = true
            · rw [if_pos hB] at HR
              rcases hor3 with ⟨g1, g2⟩ | g1
              all_goals
                go_wp2_with (first | (go_at_call 84; refine (LT.out _).mono ?_; rintro e w1 ⟨rfl, hb1⟩) | (go_at_call 114; refine (PA.out _ (CF.out _ _ hb1).2.errR).mono ?_; rintro e w2 ⟨⟨m, x, rfl, hx⟩, hb2⟩; rw [if_pos hB] at hx; obtain ⟨p, rfl⟩ := hx) | (go_at_call 113; refine (WR.out 2 _ ((CF.out _ _ hb1).1.fresh hb2)).mono ?_; rintro e w3 ⟨y, rfl, hat, hb3⟩))
                go_ret
                rw [HR.out]
                have hc := (CF.out _ _ hb1).1
                exact ⟨⟨y, rfl, hat⟩, ((BL.out _ _ hb1).trans (hb2.mono (Nat.le_of_lt hc.lt))).trans (hb3.mono (Nat.le_of_lt (hc.fresh hb2).lt))⟩
            · rw [if_neg hB] at HR
              rcases hor3 with ⟨g1, g2⟩ | g1
              all_goals
                go_wp2_with (first | (go_at_call 84; refine (LT.out _).mono ?_; rintro e w1 ⟨rfl, hb1⟩) | (go_at_call 114; refine (PA.out _ (CF.out _ _ hb1).2.errR).mono ?_; rintro e w2 ⟨⟨m, x, rfl, hx⟩, hb2⟩; rw [if_neg hB] at hx; subst hx) | (go_at_call 81; refine (TK.out _ ((CF.out _ _ hb1).1.fresh hb2)).mono ?_; rintro e w3 ⟨rfl, v', hv', hb3⟩))
                go_ret
                rw [HR.out]
                have hc := (CF.out _ _ hb1).1
                exact ⟨⟨rfl, v', hv'⟩, ((BL.out _ _ hb1).trans (hb2.mono (Nat.le_of_lt hc.lt))).trans hb3⟩
end Go.Proofs.YtgonbmcojjcabaaGreatDoor

namespace Go.Proofs.YtgonbmcojjcabaaGreatDoor
open Go.RowKit Lx
variable {w w' : World} {cb a : Nat} {s : ByteArray} {v : Value} {ts : List Tok}

set_option maxRecDepth 100000 in
set_option maxHeartbeats 6400000 in
theorem cutWord_any (w : World) (h : CutAt w cb s a v ts) (ha : a < s.size) (hs : s.size ≤ 4000) (hl : ts.length ≤ 5000) (hE : LexEnv cb w) :
    Calls Tryz.prog 85 #[.pointer (some ⟨cb, 0, none⟩)] w fun e w' => CutSays w' cb s a ts e (wordCut (rs s a)) ∧ Below cb w w' := by
  have H0 := Lib.hid h
  have HE := Lib.hid hE
  have c0 := h.c0
  have c1 := h.c1
  have hcb := h.lt
  have hnl := wordV_le _ (rs s a) (Nat.le_refl _)
  rw [rs_length] at hnl
  obtain ⟨n, hn⟩ : ∃ n, n = wordV (rs s a) := ⟨_, rfl⟩
  obtain ⟨z, hz⟩ : ∃ z, z = a + n := ⟨_, rfl⟩
  have HNC : Hid (wordCut (rs s a) = if isKeyV ((rs s a).take n) then .tok 2 n else if 12 < n then .err 4 else .tok 1 n) := Lib.hid (by unfold wordCut; rw [← hn])
  rw [← hn] at hnl
  have HZ := Lib.hid hz
  have hza : a ≤ z := by omega
  have hzs : z ≤ s.size := by omega
  have HDL : Hid ((s.extract a z).data.toList = (rs s a).take n) := Lib.hid (by rw [rs_extract]; congr 1; omega)
  have HSZ : Hid ((s.extract a z).size = n) := Lib.hid (by rw [ByteArray.size_extract]; omega)
  have WE : Hid (∀ q, Calls Tryz.prog 115 #[.string s, .int .i64 a] (w.drewN q) fun e w' => e = .returned (.int .i64 z) ∧ Below (w.drewN q).heap.size (w.drewN q) w') := Lib.hid fun q => by
    have := wordEnd_any s a (w.drewN q) (by omega) (by omega) (HE.out.drewN q).tabs
    rw [← hn, ← hz] at this
    exact this
  have hai : (a : Int) ≤ (z : Int) := by omega
  have hzi : (0 : Int) ≤ (z : Int) ∧ (z : Int) ≤ (s.size : Int) := by omega
  clear h hE hn hz
  go_enter Tryz.func85, Tryz.ntmps85
  go_wp2_with fail
  go_still_tail 8, (by kernel_rfl)
  change wpList _ _ _ _ _ w.drew
  go_wp2_with (go_at_call 115; refine (WE.out 1).mono ?_; rintro e w1 ⟨rfl, hb1⟩)
  have H1 := Lib.hid ((H0.out.drewN 1).fresh hb1)
  have HE1 := Lib.hid ((HE.out.drewN 1).below hb1 (Nat.le_of_lt hcb))
  have HB1 : Hid (Below cb w w1) := Lib.hid ⟨hb1.os, hb1.tape, hb1.output, hb1.size, fun k hk => hb1.block k (Nat.lt_trans hk hcb)⟩
  clear hb1 c0 c1 WE
  have c0 := H1.out.c0
  have c1 := H1.out.c1
  have hcb1 := H1.out.lt
  go_quiet (fail)
  generalize s.extract a z = D at *
  have hsz := HSZ.out
  subst hsz
  have IK : Hid (∀ W, Calls Tryz.prog 116 #[.string D] W fun e w' => e = .returned (.bool (isKeyV ((rs s a).take D.size))) ∧ W = w') := Lib.hid fun W => by
    have := isKey_any D W
    rw [HDL.out] at this
    exact this
  have TK : Hid (∀ k q, Calls Tryz.prog 81 #[.pointer (some ⟨cb, 0, none⟩), .int .i64 ((k : Nat) : Int), .int .i64 D.size] (w1.drewN q) fun e w' => e = .returned (.tuple #[]) ∧ ∃ v', CutAt w' cb s (a + D.size) v' (ts ++ [⟨k, (rs s a).take D.size, a⟩]) ∧ Below cb (w1.drewN q) w') :=
    Lib.hid fun k q => take_any k D.size _ (H1.out.drewN q) (by have := HZ.out; omega) hs hl
  have WR : Hid (∀ (r q : Nat), Calls Tryz.prog 113 #[.pointer (some ⟨cb, 0, none⟩), .int .i64 r] (w1.drewN q) fun e w' => ∃ x, e = .returned x ∧ AtErr w' cb x r a ∧ Below (w1.drewN q).heap.size (w1.drewN q) w') := Lib.hid fun r q => wrong_any r _ (H1.out.drewN q)
  have BX : Hid (∀ (q : Nat) (w2 : World), Below cb (w1.drewN q) w2 → Below cb w w2) := Lib.hid fun q w2 hb => HB1.out.trans ⟨hb.os, hb.tape, hb.output, hb.size, hb.block⟩
  by_cases hk : isKeyV ((rs s a).take D.size) = true
  · rw [hk] at IK
    rw [if_pos hk] at HNC
    go_wp2_with (first | (go_at_call 116; refine (IK.out _).mono ?_; rintro e w2 ⟨rfl, rfl⟩) | (go_at_call 81; refine (TK.out 2 _).mono ?_; rintro e w3 ⟨rfl, v', hv', hb3⟩))
    go_ret
    rw [HNC.out]
    exact ⟨⟨rfl, v', hv'⟩, BX.out _ _ hb3⟩
  · rw [Bool.eq_false_iff.2 hk] at IK
    rw [if_neg hk] at HNC
    by_cases h12 : 12 < D.size
    · have hi : (12 : Int) < (D.size : Int) := by omega
      rw [if_pos h12] at HNC
      go_wp2_with (first | (go_at_call 116; refine (IK.out _).mono ?_; rintro e w2 ⟨rfl, rfl⟩) | (go_at_call 113; refine (WR.out 4 _).mono ?_; rintro e w3 ⟨x, rfl, hat, hb3⟩))
      go_ret
      rw [HNC.out]
      exact ⟨⟨x, rfl, hat⟩, BX.out _ _ ⟨hb3.os, hb3.tape, hb3.output, hb3.size, fun k hk => hb3.block k (Nat.lt_trans hk hcb1)⟩⟩
    · have hi : ¬ (12 : Int) < (D.size : Int) := by omega
      rw [if_neg h12] at HNC
      go_wp2_with (first | (go_at_call 116; refine (IK.out _).mono ?_; rintro e w2 ⟨rfl, rfl⟩) | (go_at_call 81; refine (TK.out 1 _).mono ?_; rintro e w3 ⟨rfl, v', hv', hb3⟩))
      go_ret
      rw [HNC.out]
      exact ⟨⟨rfl, v', hv'⟩, BX.out _ _ hb3⟩

/-! Signs. -/
theorem sigs_len : sigsL.length = 28 := rfl
def sgsV : Array Value := (sigsL.map fun z => Value.string (mkT z)).toArray
theorem sgsV_get (k : Nat) (h : k < 28) : sgsV[k]? = some (.string (mkT (sigsL.getD k []))) := by
  unfold sgsV
  rw [List.getElem?_toArray, List.getElem?_map, List.getD_eq_getElem?_getD, List.getElem?_eq_getElem (by rw [sigs_len]; exact h)]
  rfl
theorem sgsV_size : sgsV.size = 28 := rfl
theorem sgsV_range (w : World) (h : Sgs w) : w.rangeAt 3 0 sgsV.toList := by
  intro j v hv
  have hj : j < 28 := by
    have := (List.getElem?_eq_some_iff.1 hv).1
    rw [Array.length_toList, sgsV_size] at this
    exact this
  rw [Nat.zero_add, h j hj, ← hv, Array.getElem?_toList, sgsV_get j hj]

theorem info_str : (Tryz.prog.info? 9).map (fun i => (i.zero, i.size, i.bytes)) = some (some (.string ByteArray.empty), 1, 16) := by kernel_rfl
theorem index_sig (X : Array Value) (k : Nat) (z : ByteArray) (hk : k < 28) (hg : X[k]? = some (.string z)) (w : World) :
    (Instr.index 181 (.agg X) (.int .i64 k)).run Tryz.prog w = .ok (.string z) w := by
  obtain ⟨i0, hi, hz0, hz1, hz2⟩ := tinfo info_str
  have hkii : (0 : Int) ≤ (k : Int) ∧ (k : Int) < 28 := by omega
  simp [Instr.index, run_underlying Tryz.underlying181, asIntOf, hkii, hk, hg, go_sem]

set_option maxRecDepth 100000 in
set_option maxHeartbeats 6400000 in
theorem cutSign_any (w : World) (h : CutAt w cb s a v ts) (ha : a < s.size) (hs : s.size ≤ 4000) (hl : ts.length ≤ 5000) (hE : LexEnv cb w) :
    Calls Tryz.prog 86 #[.pointer (some ⟨cb, 0, none⟩)] w fun e w' => CutSays w' cb s a ts e (sigCut (rs s a)) ∧ Below cb w w' := by
  have H0 := Lib.hid h
  have HR := Lib.hid (sgsV_range w hE.sgs)
  have hsi : (Tryz.prog.info? 181).map (·.size) = some sgsV.toList.length := by kernel_rfl
  have HSI := Lib.hid hsi
  clear h hE hsi
  obtain ⟨X, hX⟩ : ∃ X, X = sgsV := ⟨_, rfl⟩
  have HG : Hid (∀ k, k < 28 → X[k]? = some (.string (mkT (sigsL.getD k [])))) := Lib.hid (by rw [hX]; exact sgsV_get)
  have hsz : X.size = 28 := by rw [hX]; rfl
  rw [← hX] at HR HSI
  clear hX
  go_enter Tryz.func86, Tryz.ntmps86
  go_wp2_with (refine wpList_load_mid rfl 181 (.global 3) rfl 3 0 rfl X.toList _ HR.out Tryz.underlying181 rfl HSI.out ?_)
  go_loopw [6] (fun i wr => ∃ k : Nat, k ≤ 28 ∧ i = .int .i64 k ∧ sigsL.find? (·.isPrefixOf (rs s a)) = (sigsL.drop k).find? (·.isPrefixOf (rs s a)) ∧ ∃ q, wr = w.drewN q) (fun i _ => 28 - (intOf i).toNat)
  case atStart => exact ⟨0, by decide, rfl, rfl, 0, rfl⟩
  case round =>
    obtain ⟨k, hk, rfl, hf, q, rfl⟩ := hrel
    have HF := Lib.hid hf
    clear hf
    have c0 := H0.out.c0
    have c1 := H0.out.c1
    have hle : (a : Int) ≤ (s.size : Int) := by omega
    by_cases hlt : k < 28
    · have hg := HG.out k hlt
      have hki : (k : Int) < 28 := by omega
      have hkii : (0 : Int) ≤ (k : Int) ∧ (k : Int) < 28 := by omega
      obtain ⟨z, hz⟩ : ∃ z, z = sigsL.getD k [] := ⟨_, rfl⟩
      rw [← hz] at hg
      have HZ := Lib.hid hz
      clear hz
      have hix := index_sig X k (mkT z) hlt hg
      have HDK : Hid (sigsL.drop k = z :: sigsL.drop (k + 1)) := Lib.hid (by
        rw [List.drop_eq_getElem_cons (by rw [sigs_len]; exact hlt), HZ.out, List.getD_eq_getElem?_getD, List.getElem?_eq_getElem (by rw [sigs_len]; exact hlt)]
        rfl)
      have HX : ∀ r, z.isPrefixOf (rs s a) = r → Hid (∀ q2, Calls Tryz.prog 43 #[.string (s.extract a s.size), .string (mkT z)] (w.drewN (q + q2)) fun e w' => e = .returned (.bool r) ∧ ∃ n, w' = w.drewN (q + n)) := fun r hr => Lib.hid fun q2 => by
        refine (Tryz.strings_HasPrefix (s.extract a s.size) (mkT z) _).mono ?_
        rintro e w' ⟨rfl, rfl⟩
        rw [rs_extract_all]
        exact ⟨by rw [← hr]; rfl, q2, rfl⟩
      by_cases hp : z.isPrefixOf (rs s a) = true
      · have hx := HX _ hp
        have hfind : sigsL.find? (·.isPrefixOf (rs s a)) = some z := by rw [HF.out, HDK.out, List.find?_cons, hp]
        have HR2 : Hid (sigCut (rs s a) = .tok 4 z.length) := Lib.hid (by unfold sigCut; rw [hfind])
        have hzl := (sig_mem hfind).2.length_le
        rw [rs_length] at hzl
        have hms := mkT_size z
        have TK : Hid (∀ q, Calls Tryz.prog 81 #[.pointer (some ⟨cb, 0, none⟩), .int .i64 4, .int .i64 (mkT z).size] (w.drewN q) fun e w' => e = .returned (.tuple #[]) ∧ ∃ v', CutAt w' cb s (a + z.length) v' (ts ++ [⟨4, (rs s a).take z.length, a⟩]) ∧ Below cb (w.drewN q) w') :=
          Lib.hid fun q => by rw [hms]; exact take_any 4 z.length _ (H0.out.drewN q) (by omega) hs hl
        clear hfind hp HX hg hms
        go_wp2_with fail
        go_quiet ((go_at_call 43; exact hx.out _))
        go_wp2_with (go_at_call 81; refine (TK.out _).mono ?_; rintro e w3 ⟨rfl, v', hv', hb3⟩)
        go_ret
        rw [HR2.out]
        exact ⟨⟨rfl, v', hv'⟩, ⟨hb3.os, hb3.tape, hb3.output, hb3.size, hb3.block⟩⟩
      · have hx := HX _ (Bool.eq_false_iff.2 hp)
        have HN2 : Hid (sigsL.find? (·.isPrefixOf (rs s a)) = (sigsL.drop (k + 1)).find? (·.isPrefixOf (rs s a))) := Lib.hid (by rw [HF.out, HDK.out, List.find?_cons, Bool.eq_false_iff.2 hp])
        clear hp HX hg
        go_wp2_with fail
        go_quiet ((go_at_call 43; exact hx.out _))
        go_wp2_with fail
        go_roundw
        case rel => exact ⟨k + 1, by omega, by go_num, HN2.out, _, rfl⟩
        case measure => simp [intOf]; omega
    · have hki : ¬ (k : Int) < 28 := by omega
      have HR2 : Hid (sigCut (rs s a) = .err 3) := Lib.hid (by
        have h2 := HF.out
        rw [List.drop_eq_nil_of_le (by rw [sigs_len]; omega)] at h2
        unfold sigCut
        rw [h2]; rfl)
      have WR := Lib.hid (wrong_any 3 _ (H0.out.drewN q))
      go_wp2_with (go_at_call 113; refine WR.out.mono ?_; rintro e w3 ⟨x, rfl, hat, hb3⟩)
      go_ret
      rw [HR2.out]
      exact ⟨⟨x, rfl, hat⟩, ⟨hb3.os, hb3.tape, hb3.output, hb3.size, fun k hk => hb3.block k (Nat.lt_trans hk H0.out.lt)⟩⟩
end Go.Proofs.YtgonbmcojjcabaaGreatDoor

namespace Go.Proofs.YtgonbmcojjcabaaGreatDoor
open Go.RowKit Lx
variable {w w' : World} {cb a : Nat} {s : ByteArray} {v : Value} {ts : List Tok}

/-- Whether a line may end behind these tokens. -/
def mayL (ts : List Tok) : Bool := match ts.getLast? with
  | none => false
  | some t => mayV t.kind t.text
theorem mayL_nil : mayL [] = false := rfl
theorem mayL_snoc (ts : List Tok) (t : Tok) : mayL (ts ++ [t]) = mayV t.kind t.text := by simp [mayL]
theorem cellsT_at : ∀ (ts : List Tok) (i : Nat) (t : Tok), ts[i]? = some t → (cellsT ts)[i * 3]? = some (.int .i64 t.kind) ∧ (cellsT ts)[i * 3 + 1]? = some (.string (mkT t.text)) ∧ (cellsT ts)[i * 3 + 2]? = some (.int .i64 t.at_) := by
  intro ts
  induction ts with
  | nil => intro i t h; cases h
  | cons p ps ih =>
    intro i t h
    have e : cellsT (p :: ps) = .int .i64 p.kind :: .string (mkT p.text) :: .int .i64 p.at_ :: cellsT ps := rfl
    cases i with
    | zero => cases h; exact ⟨rfl, rfl, rfl⟩
    | succ i =>
      have := ih i t (by simpa using h)
      rw [e, show (i + 1) * 3 = i * 3 + 1 + 1 + 1 by omega, show i * 3 + 1 + 1 + 1 + 1 = (i * 3 + 1) + 1 + 1 + 1 by omega, show i * 3 + 1 + 1 + 1 + 2 = (i * 3 + 2) + 1 + 1 + 1 by omega]
      simp only [List.getElem?_cons_succ]
      exact this
/-- The cells of a token in a row of the call's own. -/
theorem own_cells {w : World} {base g n cap : Nat} {ts : List Tok} (h : w.ownsRow base 100 3 (.slice (some ⟨g, 0, none⟩) n cap) n (cellsT ts)) (i : Nat) (t : Tok) (hi : ts[i]? = some t) :
    w.cell? ⟨g, i * 3, none⟩ = some (.int .i64 t.kind) ∧ w.cell? ⟨g, i * 3 + 1, none⟩ = some (.string (mkT t.text)) ∧ w.cell? ⟨g, i * 3 + 2, none⟩ = some (.int .i64 t.at_) := by
  have hl : ts.length = n := by have := h.1; rw [cellsT_length] at this; omega
  have hin : i < ts.length := (List.getElem?_eq_some_iff.1 hi).1
  rcases h.2 with ⟨e, _⟩ | ⟨g', cap', cur, e, _, hg, _, _, _, htake⟩
  · cases e
  · cases e
    obtain ⟨g1, g2, g3⟩ := cellsT_at ts i t hi
    rw [cell_of_row _ _ _ _ _ _ hg, cell_of_row _ _ _ _ _ _ hg, cell_of_row _ _ _ _ _ _ hg]
    rw [← htake] at g1 g2 g3
    rw [List.getElem?_take, if_pos (by omega)] at g1 g2 g3
    exact ⟨by simpa using g1, by simpa using g2, by simpa using g3⟩

theorem below_drewNs {B : Nat} {a w : World} (h : Below B a w) (n : Nat) : Below B a (w.drewN n) := ⟨h.os, h.tape, h.output, h.size, h.block⟩
/-- What a line's end comes to. -/
def lineToks (ts : List Tok) (l : B) (a : Nat) : List Tok := if mayL ts then ts ++ [⟨5, l, a⟩] else ts

set_option maxRecDepth 100000 in
set_option maxHeartbeats 6400000 in
theorem cutLine_any (n : Nat) (w : World) (h : CutAt w cb s a v ts) (ha : a + n ≤ s.size) (hs : s.size ≤ 4000) (hl : ts.length ≤ 5000) :
    Calls Tryz.prog 56 #[.pointer (some ⟨cb, 0, none⟩), .int .i64 n] w fun e w' => e = .returned (.tuple #[]) ∧ ∃ v', CutAt w' cb s (a + n) v' (lineToks ts ((rs s a).take n) a) ∧ Below cb w w' := by
  have H0 := Lib.hid h
  have c1 := h.c1
  have z1 := h.z1
  have c2 := h.c2
  have hcb := h.lt
  have hor : ts = [] ∨ ∃ ini t, ts = ini ++ [t] := by
    rcases List.eq_nil_or_concat ts with h | ⟨ini, t, h⟩
    · exact Or.inl h
    · exact Or.inr ⟨ini, t, by rw [h, List.concat_eq_append]⟩
  rcases hor with rfl | ⟨ini, t, rfl⟩
  · have hv : ∃ ao cap, v = .slice ao 0 cap := by
      rcases h.own.2 with ⟨rfl, _⟩ | ⟨g, cap, cur, rfl, _⟩
      · exact ⟨_, _, rfl⟩
      · exact ⟨_, _, rfl⟩
    obtain ⟨ao, cap, rfl⟩ := hv
    have LT : Hid (lineToks [] ((rs s a).take n) a = []) := Lib.hid rfl
    clear h
    go_enter Tryz.func56, Tryz.ntmps56
    go_wp2_with fail
    go_quiet (fail)
    go_wp2_with fail
    try simp only [Exit.inBlock, Exit.then]
    refine bodyPost_ret (results_none rfl _ _ _) rfl ?_
    rw [LT.out]
    exact ⟨rfl, _, (H0.out.drewN _).set1 (a + n), Below.setCell (p := ⟨cb, 1, none⟩) (below_drewNs (Below.refl _ _) _) (Nat.le_refl _) _⟩
  · have hv : ∃ g cap, v = .slice (some ⟨g, 0, none⟩) (ini.length + 1) cap ∧ ini.length + 1 ≤ cap ∧ cap ≤ maxLen := by
      rcases h.own.2 with ⟨rfl, h0⟩ | ⟨g, cap, cur, rfl, _, _, h1, h2, _⟩
      · rw [List.length_append] at h0; simp at h0
      · rw [List.length_append] at h1 ⊢
        exact ⟨_, _, rfl, h1, h2⟩
    obtain ⟨g, cap, rfl, hcap, hmx⟩ := hv
    have hown := h.own
    rw [List.length_append] at hown
    obtain ⟨d0, d1, d2⟩ := own_cells (n := ini.length + 1) hown ini.length t (by rw [List.getElem?_append_right (Nat.le_refl _), Nat.sub_self]; rfl)
    have LT : Hid (lineToks (ini ++ [t]) ((rs s a).take n) a = if mayV t.kind t.text then ini ++ [t] ++ [⟨5, (rs s a).take n, a⟩] else ini ++ [t]) := Lib.hid (by unfold lineToks; rw [mayL_snoc])
    have ME : Hid (∀ W, Calls Tryz.prog 87 #[.agg #[.int .i64 t.kind, .string (mkT t.text), .int .i64 t.at_]] W fun e w' => e = .returned (.bool (mayV t.kind t.text)) ∧ Below W.heap.size W w') := Lib.hid fun W => mayEnd_any t.kind (mkT t.text) t.at_ W
    have hmi : ini.length ≤ 5000 := by rw [List.length_append] at hl; simp at hl; omega
    have hii : (0 : Int) ≤ (ini.length : Int) ∧ (ini.length : Int) < (ini.length : Int) + 1 := by omega
    have hwr : IntKind.i64.wrap (ini.length : Int) = (ini.length : Int) := IntWalk.i64_in _ (by omega)
    clear h hown
    go_enter Tryz.func56, Tryz.ntmps56
    go_wp2_with fail
    go_still_tail 19, (by kernel_rfl)
    change wpList _ _ _ _ _ w.drew
    generalize mayV t.kind t.text = b at *
    cases b with
    | false =>
      go_wp2_with (go_at_call 87; refine (ME.out _).mono ?_; rintro e w1 ⟨rfl, hb1⟩; have H1 := Lib.hid ((H0.out.drewN 1).fresh hb1); have c1 := H1.out.c1; have z1 := H1.out.z1)
      try simp only [Exit.inBlock, Exit.then]
      refine bodyPost_ret (results_none rfl _ _ _) rfl ?_
      rw [LT.out]
      have hB1 : Below cb w w1 := ⟨hb1.os, hb1.tape, hb1.output, hb1.size, fun k hk => hb1.block k (Nat.lt_trans hk hcb)⟩
      exact ⟨rfl, _, H1.out.set1 (a + n), Below.setCell (p := ⟨cb, 1, none⟩) hB1 (Nat.le_refl _) _⟩
    | true =>
      go_wp2_with (first | (go_at_call 87; refine (ME.out _).mono ?_; rintro e w1 ⟨rfl, hb1⟩; have H1 := Lib.hid ((H0.out.drewN 1).fresh hb1)) | (go_at_call 81; refine (take_any 5 n _ H1.out ha hs hl).mono ?_; rintro e w2 ⟨rfl, v', hv', hb2⟩))
      go_end0
      rw [LT.out]
      have hB1 : Below cb w w1 := ⟨hb1.os, hb1.tape, hb1.output, hb1.size, fun k hk => hb1.block k (Nat.lt_trans hk hcb)⟩
      exact ⟨rfl, _, hv', hB1.trans hb2⟩

/-- What one cut comes to, beside the text's tokens. -/
def CutGoes (w' : World) (cb : Nat) (s : ByteArray) (a : Nat) (ts : List Tok) (e : Ending) : Prop :=
  (∃ a' v' new, e = .returned .nilIface ∧ CutAt w' cb s a' v' (ts ++ new) ∧ a < a' ∧ a' ≤ s.size ∧ new.length ≤ 1 ∧
    lx (rs s a) a (mayL ts) = (new ++ (lx (rs s a') a' (mayL (ts ++ new))).1, (lx (rs s a') a' (mayL (ts ++ new))).2)) ∨
  (∃ r x, e = .returned x ∧ AtErr w' cb x r a ∧ lx (rs s a) a (mayL ts) = ([], some (r, a)))
theorem goes_tok {e : Ending} {k n : Nat} {v' : Value} (hne : rs s a ≠ []) (hst : stepV (rs s a) (mayL ts) = .cut (.tok k n)) (he : e = .returned .nilIface) (hc : CutAt w' cb s (a + n) v' (ts ++ [⟨k, (rs s a).take n, a⟩])) : CutGoes w' cb s a ts e := by
  obtain ⟨h1, h2, _⟩ := step_tok hne hst
  rw [rs_length] at h2
  refine Or.inl ⟨a + n, v', _, he, hc, by omega, by omega, by simp, ?_⟩
  rw [lx_tok hne hst, mayL_snoc, rs_drop]
  rfl
theorem goes_says {e : Ending} {c : Cut} (hne : rs s a ≠ []) (hst : stepV (rs s a) (mayL ts) = .cut c) (h : CutSays w' cb s a ts e c) : CutGoes w' cb s a ts e := by
  cases c with
  | tok k n =>
    obtain ⟨he, v', hc⟩ := h
    exact goes_tok hne hst he hc
  | err r =>
    obtain ⟨x, he, hx⟩ := h
    exact Or.inr ⟨r, x, he, hx, lx_err hne hst a⟩
theorem says_ret {e : Ending} {c : Cut} (h : CutSays w' cb s a ts e c) : ∃ x, e = .returned x := by
  cases c with
  | tok k n => exact ⟨_, h.1⟩
  | err r => obtain ⟨x, hx, _⟩ := h; exact ⟨x, hx⟩
theorem goes_line {e : Ending} {v' : Value} {r : B} (hr : rs s a = 10 :: r) (he : e = .returned .nilIface) (hc : CutAt w' cb s (a + 1) v' (lineToks ts ((rs s a).take 1) a)) : CutGoes w' cb s a ts e := by
  have hne : rs s a ≠ [] := by rw [hr]; simp
  have hst : stepV (rs s a) (mayL ts) = if mayL ts then .cut (.tok 5 1) else .skip 1 := by
    rw [hr, stepV_cons, if_neg (by decide), if_neg (by simp [List.isPrefixOf]), if_pos rfl]
  unfold lineToks at hc
  cases hm : mayL ts with
  | true =>
    rw [hm] at hst hc
    simp only [if_true] at hst hc
    exact goes_tok hne (by rw [hm]; exact hst) he hc
  | false =>
    rw [hm] at hst hc
    simp only [Bool.false_eq_true, if_false] at hst hc
    have hl : 1 ≤ s.size - a := by rw [← rs_length, hr]; simp
    refine Or.inl ⟨a + 1, v', [], he, by rw [List.append_nil]; exact hc, by omega, by omega, by simp, ?_⟩
    rw [List.append_nil, hm, lx_skip hne hst, rs_drop]
    rfl

set_option maxRecDepth 100000 in
set_option maxHeartbeats 6400000 in
theorem cut_any (w : World) (h : CutAt w cb s a v ts) (ha : a < s.size) (hs : s.size ≤ 4000) (hl : ts.length ≤ 5000) (hE : LexEnv cb w) (hS : Stands (rs s a)) :
    Calls Tryz.prog 55 #[.pointer (some ⟨cb, 0, none⟩)] w fun e w' => CutGoes w' cb s a ts e ∧ Below cb w w' := by
  have H0 := Lib.hid h
  have HE := Lib.hid hE
  have c0 := h.c0
  have c1 := h.c1
  have hcb := h.lt
  have hr := rs_cons s a ha
  have hne : rs s a ≠ [] := by rw [hr]; simp
  obtain ⟨g1, g2⟩ := hS _ _ hr
  have HST : Hid (s[a] ≠ 10 → stepV (rs s a) (mayL ts) = .cut (cutV (rs s a))) := Lib.hid fun h10 => by
    rw [hr] at g2 ⊢
    rw [stepV_cons, if_neg (by simp [g1]), if_neg (by simp only [g2]; decide), if_neg h10]
  have HNE := Lib.hid hne
  have HCV : Hid (cutV (rs s a) = if s[a] = 59 then .tok 5 1 else if isDg s[a] then numCut (rs s a) else if 0 < letV (rs s a) then wordCut (rs s a) else sigCut (rs s a)) := Lib.hid (by rw [hr]; rfl)
  have hii : (0 : Int) ≤ (a : Int) ∧ (a : Int) < (s.size : Int) := by omega
  have hi10 : ((s[a].toNat : Int) = 10) ↔ s[a] = 10 := by
    constructor
    · intro e; exact UInt8.toNat_inj.1 (by have : (10 : UInt8).toNat = 10 := rfl; omega)
    · intro e; rw [e]; rfl
  have hi59 : ((s[a].toNat : Int) = 59) ↔ s[a] = 59 := by
    constructor
    · intro e; exact UInt8.toNat_inj.1 (by have : (59 : UInt8).toNat = 59 := rfl; omega)
    · intro e; rw [e]; rfl
  have HRC := Lib.hid hr
  clear h hE hne g1 g2 hS hr
  go_enter Tryz.func55, Tryz.ntmps55
  go_wp2_with fail
  go_quiet (fail)
  have HB : Hid (∀ q w2, Below cb (w.drewN q) w2 → Below cb w w2) := Lib.hid fun q w2 hb => ⟨hb.os, hb.tape, hb.output, hb.size, hb.block⟩
  by_cases h10 : s[a] = 10
  · have hj : (s[a].toNat : Int) = 10 := hi10.2 h10
    have HR10 : Hid (rs s a = 10 :: rs s (a + 1)) := Lib.hid (by rw [HRC.out, h10])
    clear hi10 hi59 h10
    go_wp2_with (go_at_call 56; refine (cutLine_any 1 _ (H0.out.drewN _) (by omega) hs hl).mono ?_; rintro e w1 ⟨rfl, v', hv', hb1⟩)
    go_ret
    exact ⟨goes_line HR10.out rfl hv', HB.out _ _ hb1⟩
  · have hj : ¬ (s[a].toNat : Int) = 10 := fun e => h10 (hi10.1 e)
    have HST2 := Lib.hid (HST.out h10)
    clear hi10 h10
    by_cases h59 : s[a] = 59
    · have hj2 : (s[a].toNat : Int) = 59 := hi59.2 h59
      have HC2 : Hid (cutV (rs s a) = .tok 5 1) := Lib.hid (by rw [HCV.out, if_pos h59])
      clear hi59 h59 hj
      go_wp2_with (go_at_call 81; refine (take_any 5 1 _ (H0.out.drewN _) (by omega) hs hl).mono ?_; rintro e w1 ⟨rfl, v', hv', hb1⟩)
      go_ret
      exact ⟨goes_tok HNE.out (by rw [HST2.out, HC2.out]) rfl hv', HB.out _ _ hb1⟩
    · have hj2 : ¬ (s[a].toNat : Int) = 59 := fun e => h59 (hi59.1 e)
      have HC2 : Hid (cutV (rs s a) = if isDg s[a] then numCut (rs s a) else if 0 < letV (rs s a) then wordCut (rs s a) else sigCut (rs s a)) := Lib.hid (by rw [HCV.out, if_neg h59])
      have HDG := fun w => isDigit_any s[a] w
      clear hi59 h59
      by_cases hd : isDg s[a] = true
      · rw [hd] at HDG
        rw [if_pos hd] at HC2
        go_wp2_with (first | (go_at_call 82; refine (HDG _).mono ?_; rintro e w2 ⟨rfl, rfl⟩) | (go_at_call 83; refine (cutNumber_any _ (H0.out.drewN _) ha hs hl (HE.out.drewN _) hd).mono ?_; rintro e w1 ⟨hsay, hb1⟩; obtain ⟨x, rfl⟩ := says_ret hsay))
        go_ret
        exact ⟨goes_says HNE.out (by rw [HST2.out, HC2.out]) hsay, HB.out _ _ hb1⟩
      · rw [Bool.eq_false_iff.2 hd] at HDG
        rw [if_neg hd] at HC2
        go_wp2_with (go_at_call 82; refine (HDG _).mono ?_; rintro e w2 ⟨rfl, rfl⟩)
        have LT : Hid (∀ W, LexEnv cb W → Calls Tryz.prog 84 #[.string s, .int .i64 a] W fun e w' => e = .returned (.int .i64 (letV (rs s a))) ∧ Below W.heap.size W w') := Lib.hid fun W hW => letter_any s a W (by omega) hW.tabs
        clear HDG HCV hd hj hj2
        generalize hW : w.drewN nq = W at *
        have H1 : Hid (CutAt W cb s a v ts) := Lib.hid (hW ▸ H0.out.drewN nq)
        have HE1 : Hid (LexEnv cb W) := Lib.hid (hW ▸ HE.out.drewN nq)
        have HB1 : Hid (Below cb w W) := Lib.hid (hW ▸ below_drewNs (Below.refl _ _) nq)
        have c0 := H1.out.c0
        have c1 := H1.out.c1
        have hcb1 := H1.out.lt
        clear hW HB
        go_still_tail 8, (by kernel_rfl)
        change wpList _ _ _ _ _ W.drew
        have HS : Hid (∀ w1, Below W.drew.heap.size W.drew w1 → CutAt w1 cb s a v ts ∧ LexEnv cb w1 ∧ Below cb w w1) := Lib.hid fun w1 hb => ⟨(H1.out.drewN 1).fresh hb, (HE1.out.drewN 1).below hb (Nat.le_of_lt hcb1), HB1.out.trans ⟨hb.os, hb.tape, hb.output, hb.size, fun k hk => hb.block k (Nat.lt_trans hk hcb1)⟩⟩
        by_cases hL : 0 < letV (rs s a)
        · rw [if_pos hL] at HC2
          generalize letV (rs s a) = L at *
          have hLi : (0 : Int) < (L : Int) := by omega
          go_wp2_with (first | (go_at_call 84; refine (LT.out _ (HE1.out.drewN 1)).mono ?_; rintro e w1 ⟨rfl, hb1⟩) | (go_at_call 85; refine (cutWord_any _ (HS.out _ hb1).1 ha hs hl (HS.out _ hb1).2.1).mono ?_; rintro e w2 ⟨hsay, hb2⟩; obtain ⟨x, rfl⟩ := says_ret hsay))
          go_ret
          exact ⟨goes_says HNE.out (by rw [HST2.out, HC2.out]) hsay, (HS.out _ hb1).2.2.trans hb2⟩
        · rw [if_neg hL] at HC2
          generalize letV (rs s a) = L at *
          have hLi : ¬ (0 : Int) < (L : Int) := by omega
          go_wp2_with (first | (go_at_call 84; refine (LT.out _ (HE1.out.drewN 1)).mono ?_; rintro e w1 ⟨rfl, hb1⟩) | (go_at_call 86; refine (cutSign_any _ (HS.out _ hb1).1 ha hs hl (HS.out _ hb1).2.1).mono ?_; rintro e w2 ⟨hsay, hb2⟩; obtain ⟨x, rfl⟩ := says_ret hsay))
          go_ret
          exact ⟨goes_says HNE.out (by rw [HST2.out, HC2.out]) hsay, (HS.out _ hb1).2.2.trans hb2⟩
end Go.Proofs.YtgonbmcojjcabaaGreatDoor

namespace Go.Proofs.YtgonbmcojjcabaaGreatDoor
open Go.RowKit Lx

/-- What Lex answers: the tokens, or nothing and the error, at its place (none where the text is too long). -/
def LexSays (w w' : World) (s : ByteArray) (e : Ending) : Prop :=
  if 4000 < s.size then e = .returned (.tuple #[.slice none 0 0, .iface 27 (.int .i64 4)])
  else match lx s.data.toList 0 false with
    | (ts, none) => ∃ v, e = .returned (.tuple #[v, .nilIface]) ∧ w'.ownsRow (w.heap.size + 1) 100 3 v ts.length (cellsT ts)
    | (_, some (r, a)) => ∃ x, e = .returned (.tuple #[.slice none 0 0, x]) ∧ AtErr w' w.heap.size x r a

theorem rs_zero (s : ByteArray) : rs s 0 = s.data.toList := List.drop_zero

set_option maxRecDepth 100000 in
set_option maxHeartbeats 6400000 in
theorem lex_any (s : ByteArray) (w : World) (hE : LexEnv w.heap.size w) :
    Calls Tryz.prog 29 #[.string s] w fun e w' => LexSays w w' s e ∧ Below w.heap.size w w' := by
  by_cases hs : 4000 < s.size
  · have hi : (4000 : Int) < (s.size : Int) := by omega
    go_enter Tryz.func29, Tryz.ntmps29
    go_wp2_with fail
    go_ret2
    exact ⟨by unfold LexSays; rw [if_pos hs]; rfl, Below.refl _ _⟩
  · have hi : ¬ (4000 : Int) < (s.size : Int) := by omega
    have hs4 : s.size ≤ 4000 := by omega
    have HE := Lib.hid hE
    clear hE
    obtain ⟨cb, hcb⟩ : ∃ cb, cb = w.heap.size := ⟨_, rfl⟩
    have HCB := Lib.hid hcb
    have HS : Hid (∀ (w' : World) (e : Ending) , (match lx (rs s 0) 0 false with
      | (ts, none) => ∃ v, e = .returned (.tuple #[v, .nilIface]) ∧ w'.ownsRow (cb + 1) 100 3 v ts.length (cellsT ts)
      | (_, some (r, a)) => ∃ x, e = .returned (.tuple #[.slice none 0 0, x]) ∧ AtErr w' cb x r a) → LexSays w w' s e) := Lib.hid fun w' e h => by
        unfold LexSays
        rw [if_neg hs, ← rs_zero, ← hcb]
        exact h
    clear hs
    go_enter Tryz.func29, Tryz.ntmps29
    go_wp2_with fail
    have hC0 : CutAt (w.alloc (.cells #[.string s, .int .i64 0, .slice none 0 0] 104)) w.heap.size s 0 (.slice none 0 0) [] :=
      ⟨by simp, by simp, by simp, by simp, by simp, World.ownsRow_nil _ _ _ _⟩
    refine (skip_any _ hC0 (Nat.zero_le _) hs4).mono ?_
    rintro e w1 ⟨rfl, a1, hsk, hst, hc1, hkp1⟩
    have hB1 : Below w.heap.size w w1 := ((Below.refl _ _).alloc (Nat.le_refl _) _).trans (hkp1.below (by simp) (fun k _ hk => by omega))
    have HI : Hid (∃ k v ts, k ≤ s.size ∧ CutAt w1 cb s k v ts ∧ Stands (rs s k) ∧ ts.length ≤ k ∧ LexEnv cb w1 ∧ Below cb w w1 ∧ lx (rs s 0) 0 false = (ts ++ (lx (rs s k) k (mayL ts)).1, (lx (rs s k) k (mayL ts)).2)) := Lib.hid (by
      rw [hcb]
      refine ⟨a1, _, [], hsk.2.1, hc1, hst, Nat.zero_le _, HE.out.below hB1 (Nat.le_refl _), hB1, ?_⟩
      rw [hsk.2.2 false]
      rfl)
    clear hC0 hsk hst hc1 hkp1 hB1
    rw [← hcb]
    clear hcb
    go_wp2_with fail
    go_loopw [] (fun wr => ∃ k v ts, k ≤ s.size ∧ CutAt wr cb s k v ts ∧ Stands (rs s k) ∧ ts.length ≤ k ∧ LexEnv cb wr ∧ Below cb w wr ∧ lx (rs s 0) 0 false = (ts ++ (lx (rs s k) k (mayL ts)).1, (lx (rs s k) k (mayL ts)).2)) (fun wr => s.size - atOf wr cb)
    case atStart => exact HI.out
    case round =>
      obtain ⟨k, v, ts, hk, hc, hst, hl, hE, hb, hx⟩ := hrel
      have HC := Lib.hid hc
      have HX := Lib.hid hx
      have HB := Lib.hid hb
      have HL := Lib.hid hE
      have HST := Lib.hid hst
      have c1 := hc.c1
      clear hc hx hb hE hst
      by_cases hlt : k < s.size
      · have hli : (k : Int) < (s.size : Int) := by omega
        go_wp2_with fail
        refine (cut_any _ HC.out hlt hs4 (by omega) HL.out HST.out).mono ?_
        rintro e w2 ⟨hgo, hb2⟩
        rcases hgo with ⟨k2, v2, new, rfl, hc2, hk2, hk2s, hnew, hx2⟩ | ⟨r, x, rfl, hat, hx2⟩
        · go_wp2_with fail
          refine (skip_any _ hc2 hk2s hs4).mono ?_
          rintro e w3 ⟨rfl, k3, hsk, hst3, hc3, hkp3⟩
          have hb3 : Below cb w2 w3 := hkp3.below (Nat.le_of_lt hc2.lt) (fun k _ hk => by omega)
          go_wp2_with fail
          refine ⟨⟨k3, v2, ts ++ new, hsk.2.1, hc3, hst3, ?_, (HL.out.below hb2 (Nat.le_refl _)).below hb3 (Nat.le_refl _), (HB.out.trans hb2).trans hb3, ?_⟩, ?_⟩
          · rw [List.length_append]; have := hsk.1; omega
          · rw [HX.out, hx2, hsk.2.2, List.append_assoc]
          · rw [hc3.atOf, HC.out.atOf]; have := hsk.1; omega
        · obtain ⟨b, rfl, hat2⟩ := hat
          have HAT : Hid (AtErr w2 cb (.iface 107 (.pointer (some ⟨b, 0, none⟩))) r k) := Lib.hid ⟨b, rfl, hat2⟩
          clear hat2
          go_wp2_with fail
          go_ret2
          refine ⟨HS.out _ _ ?_, by have := HB.out.trans hb2; rw [HCB.out] at this; exact this⟩
          rw [HX.out, hx2]
          exact ⟨_, rfl, HAT.out⟩
      · obtain rfl : k = s.size := by omega
        have hli : ¬ (s.size : Int) < (s.size : Int) := by omega
        have HX2 : Hid (lx (rs s 0) 0 false = (lineToks ts [] s.size, none)) := Lib.hid (by
          rw [HX.out, rs_nil s s.size (Nat.le_refl _), lx_nil]
          unfold lineToks endV
          cases mayL ts <;> simp)
        have CL : Hid (Calls Tryz.prog 56 #[.pointer (some ⟨cb, 0, none⟩), .int .i64 0] wr fun e w' => e = .returned (.tuple #[]) ∧ ∃ v', CutAt w' cb s s.size v' (lineToks ts [] s.size) ∧ Below cb wr w') := Lib.hid (by
          have := cutLine_any 0 wr HC.out (Nat.le_refl _) hs4 (by omega)
          exact this)
        go_wp2_with fail
        refine CL.out.mono ?_
        rintro e w2 ⟨rfl, v2, hc2, hb2⟩
        have c2 := hc2.c2
        have HC2 := Lib.hid hc2
        clear hc2
        go_wp2_with fail
        go_ret2
        refine ⟨HS.out _ _ ?_, by have := HB.out.trans hb2; rw [HCB.out] at this; exact this⟩
        rw [HX2.out]
        exact ⟨_, rfl, HC2.out.own⟩
end Go.Proofs.YtgonbmcojjcabaaGreatDoor

namespace Go.Proofs.YtgonbmcojjcabaaGreatDoor
open Go.RowKit Lx

/-- Tokens that stand in memory, as a slice. -/
def RowT (w : World) (v : Value) (ts : List Tok) : Prop :=
  (v = .slice none 0 0 ∧ ts = []) ∨ ∃ g cap, v = .slice (some ⟨g, 0, none⟩) ts.length cap ∧ ts.length ≤ cap ∧ cap ≤ maxLen ∧ g < w.heap.size ∧
    ∀ i t, ts[i]? = some t → w.cell? ⟨g, i * 3, none⟩ = some (.int .i64 t.kind) ∧ w.cell? ⟨g, i * 3 + 1, none⟩ = some (.string (mkT t.text)) ∧ w.cell? ⟨g, i * 3 + 2, none⟩ = some (.int .i64 t.at_)
theorem rowT_own {w : World} {base : Nat} {v : Value} {ts : List Tok} (h : w.ownsRow base 100 3 v ts.length (cellsT ts)) : RowT w v ts := by
  rcases h.2 with ⟨rfl, h0⟩ | ⟨g, cap, cur, rfl, _, hg, h1, h2, _⟩
  · exact Or.inl ⟨rfl, List.eq_nil_of_length_eq_zero h0⟩
  · exact Or.inr ⟨g, cap, rfl, h1, h2, (Array.getElem?_eq_some_iff.1 hg).1, fun i t hi => own_cells h i t hi⟩
theorem RowT.below {w w' : World} {n : Nat} {v : Value} {ts : List Tok} (h : RowT w v ts) (hb : Below n w w') (hn : w.heap.size ≤ n) : RowT w' v ts := by
  rcases h with h | ⟨g, cap, h1, h2, h3, h4, h5⟩
  · exact Or.inl h
  · refine Or.inr ⟨g, cap, h1, h2, h3, Nat.lt_of_lt_of_le h4 hb.size, fun i t hi => ?_⟩
    rw [hb.cell (p := ⟨g, i * 3, none⟩) (Nat.lt_of_lt_of_le h4 hn), hb.cell (p := ⟨g, i * 3 + 1, none⟩) (Nat.lt_of_lt_of_le h4 hn), hb.cell (p := ⟨g, i * 3 + 2, none⟩) (Nat.lt_of_lt_of_le h4 hn)]
    exact h5 i t hi

end Go.Proofs.YtgonbmcojjcabaaGreatDoor

namespace Go.Proofs.YtgonbmcojjcabaaGreatDoor
open Go.RowKit Lx Tr

mutual
def ExIn (w : World) (F : Nat → Prop) : Value → Ex → Prop
  | v, .nil => v = .pointer none
  | v, .mk code at_ n op name l r args => ∃ (b : Nat) (lv rv av : Value), v = .pointer (some ⟨b, 0, none⟩) ∧ F b ∧
      w.cell? ⟨b, 0, none⟩ = some (.int .i64 (code : Nat)) ∧ w.cell? ⟨b, 1, none⟩ = some (.int .i64 (at_ : Nat)) ∧ w.cell? ⟨b, 2, none⟩ = some (.int .i64 (n : Nat)) ∧ w.cell? ⟨b, 3, none⟩ = some (.string (mkT name)) ∧
      w.cell? ⟨b, 4, none⟩ = some (.int .i64 (op : Nat)) ∧ w.cell? ⟨b, 5, none⟩ = some lv ∧ w.cell? ⟨b, 6, none⟩ = some rv ∧ w.cell? ⟨b, 7, none⟩ = some av ∧
      ExIn w F lv l ∧ ExIn w F rv r ∧ ((av = .slice none 0 0 ∧ args.len = 0) ∨ ∃ g cap, av = .slice (some ⟨g, 0, none⟩) args.len cap ∧ args.len ≤ cap ∧ cap ≤ maxLen ∧ 0 < args.len ∧ F g) ∧ ∀ g n cap, av = .slice (some ⟨g, 0, none⟩) n cap → ExsIn w F g 0 args
def ExsIn (w : World) (F : Nat → Prop) (g : Nat) : Nat → Exs → Prop
  | _, .nil => True
  | i, .cons x xs => (∃ v, w.cell? ⟨g, i, none⟩ = some v ∧ ExIn w F v x) ∧ ExsIn w F g (i + 1) xs
end

mutual
theorem ExIn.keepsA {w w' : World} {F S : Nat → Prop} (hk : Keeps S w w') (hF : ∀ b, F b → ¬ S b) : ∀ (v : Value) (x : Ex), ExIn w F v x → ExIn w' F v x
  | v, .nil, h => h
  | v, .mk code at_ n op name l r args, h => by
    obtain ⟨b, lv, rv, av, e, hb, c0, c1, c2, c3, c4, c5, c6, c7, hl, hr, ha, has⟩ := h
    have hn := hF b hb
    refine ⟨b, lv, rv, av, e, hb, hk.cell_of c0 hn, hk.cell_of c1 hn, hk.cell_of c2 hn, hk.cell_of c3 hn, hk.cell_of c4 hn, hk.cell_of c5 hn, hk.cell_of c6 hn, hk.cell_of c7 hn, ExIn.keepsA hk hF lv l hl, ExIn.keepsA hk hF rv r hr, ha, fun g n cap e => ?_⟩
    rcases ha with ⟨e2, _⟩ | ⟨g', cap', e2, _, _, _, hg⟩
    · rw [e] at e2; cases e2
    · rw [e] at e2; cases e2
      exact ExsIn.keeps hk hF g hg 0 args (has g _ _ e)
theorem ExsIn.keeps {w w' : World} {F S : Nat → Prop} (hk : Keeps S w w') (hF : ∀ b, F b → ¬ S b) (g : Nat) (hg : F g) : ∀ (i : Nat) (xs : Exs), ExsIn w F g i xs → ExsIn w' F g i xs
  | _, .nil, _ => trivial
  | i, .cons x xs, h => by
    obtain ⟨⟨v, hc, hx⟩, h2⟩ := h
    exact ⟨⟨v, hk.cell_of hc (hF g hg), ExIn.keepsA hk hF v x hx⟩, ExsIn.keeps hk hF g hg (i + 1) xs h2⟩
end
mutual
theorem ExIn.mono {w : World} {F G : Nat → Prop} (hF : ∀ b, b < w.heap.size → F b → G b) : ∀ (v : Value) (x : Ex), ExIn w F v x → ExIn w G v x
  | v, .nil, h => h
  | v, .mk code at_ n op name l r args, h => by
    obtain ⟨b, lv, rv, av, e, hb, c0, c1, c2, c3, c4, c5, c6, c7, hl, hr, ha, has⟩ := h
    refine ⟨b, lv, rv, av, e, hF b (block_lt_of_cell c0) hb, c0, c1, c2, c3, c4, c5, c6, c7, ExIn.mono hF lv l hl, ExIn.mono hF rv r hr, ?_, fun g n cap e => ExsIn.mono hF g 0 args (has g _ _ e)⟩
    rcases ha with h1 | ⟨g', cap', e2, h1, h2, h3, hg⟩
    · exact Or.inl h1
    · cases args with
      | nil => exact absurd h3 (Nat.lt_irrefl _)
      | cons x xs =>
        obtain ⟨⟨u, hc, _⟩, _⟩ := has g' _ _ e2
        exact Or.inr ⟨g', cap', e2, h1, h2, h3, hF g' (block_lt_of_cell hc) hg⟩
theorem ExsIn.mono {w : World} {F G : Nat → Prop} (hF : ∀ b, b < w.heap.size → F b → G b) (g : Nat) : ∀ (i : Nat) (xs : Exs), ExsIn w F g i xs → ExsIn w G g i xs
  | _, .nil, _ => trivial
  | i, .cons x xs, h => by
    obtain ⟨⟨v, hc, hx⟩, h2⟩ := h
    exact ⟨⟨v, hc, ExIn.mono hF v x hx⟩, ExsIn.mono hF g (i + 1) xs h2⟩
end

theorem ExIn.keeps {w w' : World} {F S : Nat → Prop} {v : Value} {x : Ex} (h : ExIn w F v x) (hk : Keeps S w w') (hF : ∀ b, F b → ¬ S b) : ExIn w' F v x := ExIn.keepsA hk hF v x h
/-- A slice of so many things of so many cells, in a block of F. -/
def SlAt (F : Nat → Prop) (v : Value) (n : Nat) : Prop := (v = .slice none 0 0 ∧ n = 0) ∨ ∃ g cap, v = .slice (some ⟨g, 0, none⟩) n cap ∧ n ≤ cap ∧ cap ≤ maxLen ∧ 0 < n ∧ F g
theorem SlAt.mem {F : Nat → Prop} {v : Value} {n g m cap : Nat} (h : SlAt F v n) (e : v = .slice (some ⟨g, 0, none⟩) m cap) : F g := by
  rcases h with ⟨e2, _⟩ | ⟨g', cap', e2, _, _, _, hg⟩
  · rw [e] at e2; cases e2
  · rw [e] at e2; cases e2; exact hg

mutual
/-- The cells of a statement, from place o of block b on. -/
def StIn (w : World) (F : Nat → Prop) (b o : Nat) : St → Prop
  | .mk code at_ name dst val thn els cases => ∃ (tv vv nv ev cv : Value),
      w.cell? ⟨b, o, none⟩ = some (.int .i64 (code : Nat)) ∧ w.cell? ⟨b, o + 1, none⟩ = some (.int .i64 (at_ : Nat)) ∧ w.cell? ⟨b, o + 2, none⟩ = some (.string (mkT name)) ∧ w.cell? ⟨b, o + 3, none⟩ = some tv ∧
      w.cell? ⟨b, o + 4, none⟩ = some vv ∧ w.cell? ⟨b, o + 5, none⟩ = some nv ∧ w.cell? ⟨b, o + 6, none⟩ = some ev ∧ w.cell? ⟨b, o + 7, none⟩ = some cv ∧
      ExIn w F tv dst ∧ ExIn w F vv val ∧ SlAt F nv thn.len ∧ (∀ g n cap, nv = .slice (some ⟨g, 0, none⟩) n cap → StsIn w F g 0 thn) ∧ SlAt F ev els.len ∧ (∀ g n cap, ev = .slice (some ⟨g, 0, none⟩) n cap → StsIn w F g 0 els) ∧
      SlAt F cv cases.len ∧ (∀ g n cap, cv = .slice (some ⟨g, 0, none⟩) n cap → CasIn w F g 0 cases)
def StsIn (w : World) (F : Nat → Prop) (g : Nat) : Nat → Sts → Prop
  | _, .nil => True
  | i, .cons x xs => StIn w F g (i * 8) x ∧ StsIn w F g (i + 1) xs
def CaIn (w : World) (F : Nat → Prop) (b o : Nat) : Ca → Prop
  | .mk code at_ name dst val body => ∃ (tv vv nv : Value),
      w.cell? ⟨b, o, none⟩ = some (.int .i64 (code : Nat)) ∧ w.cell? ⟨b, o + 1, none⟩ = some (.int .i64 (at_ : Nat)) ∧ w.cell? ⟨b, o + 2, none⟩ = some (.string (mkT name)) ∧ w.cell? ⟨b, o + 3, none⟩ = some tv ∧
      w.cell? ⟨b, o + 4, none⟩ = some vv ∧ w.cell? ⟨b, o + 5, none⟩ = some nv ∧
      ExIn w F tv dst ∧ ExIn w F vv val ∧ SlAt F nv body.len ∧ (∀ g n cap, nv = .slice (some ⟨g, 0, none⟩) n cap → StsIn w F g 0 body)
def CasIn (w : World) (F : Nat → Prop) (g : Nat) : Nat → Cas → Prop
  | _, .nil => True
  | i, .cons x xs => CaIn w F g (i * 6) x ∧ CasIn w F g (i + 1) xs
end
/-- What the values of a statement mean. -/
def StV (w : World) (F : Nat → Prop) (tv vv nv ev cv : Value) (dst val : Ex) (thn els : Sts) (cases : Cas) : Prop :=
      ExIn w F tv dst ∧ ExIn w F vv val ∧ SlAt F nv thn.len ∧ (∀ g n cap, nv = .slice (some ⟨g, 0, none⟩) n cap → StsIn w F g 0 thn) ∧ SlAt F ev els.len ∧ (∀ g n cap, ev = .slice (some ⟨g, 0, none⟩) n cap → StsIn w F g 0 els) ∧
      SlAt F cv cases.len ∧ (∀ g n cap, cv = .slice (some ⟨g, 0, none⟩) n cap → CasIn w F g 0 cases)

mutual
theorem StIn.keeps {w w' : World} {F S : Nat → Prop} (hk : Keeps S w w') (hF : ∀ b, F b → ¬ S b) (b o : Nat) (hb : F b) : ∀ (x : St), StIn w F b o x → StIn w' F b o x
  | .mk code at_ name dst val thn els cases, h => by
    obtain ⟨tv, vv, nv, ev, cv, c0, c1, c2, c3, c4, c5, c6, c7, h1, h2, h3, h4, h5, h6, h7, h8⟩ := h
    have hn := hF b hb
    exact ⟨tv, vv, nv, ev, cv, hk.cell_of c0 hn, hk.cell_of c1 hn, hk.cell_of c2 hn, hk.cell_of c3 hn, hk.cell_of c4 hn, hk.cell_of c5 hn, hk.cell_of c6 hn, hk.cell_of c7 hn, h1.keeps hk hF, h2.keeps hk hF,
      h3, fun g n cap e => StsIn.keeps hk hF g (h3.mem e) 0 thn (h4 g n cap e), h5, fun g n cap e => StsIn.keeps hk hF g (h5.mem e) 0 els (h6 g n cap e), h7, fun g n cap e => CasIn.keeps hk hF g (h7.mem e) 0 cases (h8 g n cap e)⟩
theorem StsIn.keeps {w w' : World} {F S : Nat → Prop} (hk : Keeps S w w') (hF : ∀ b, F b → ¬ S b) (g : Nat) (hg : F g) : ∀ (i : Nat) (xs : Sts), StsIn w F g i xs → StsIn w' F g i xs
  | _, .nil, _ => trivial
  | i, .cons x xs, h => ⟨StIn.keeps hk hF g (i * 8) hg x h.1, StsIn.keeps hk hF g hg (i + 1) xs h.2⟩
theorem CaIn.keeps {w w' : World} {F S : Nat → Prop} (hk : Keeps S w w') (hF : ∀ b, F b → ¬ S b) (b o : Nat) (hb : F b) : ∀ (x : Ca), CaIn w F b o x → CaIn w' F b o x
  | .mk code at_ name dst val body, h => by
    obtain ⟨tv, vv, nv, c0, c1, c2, c3, c4, c5, h1, h2, h3, h4⟩ := h
    have hn := hF b hb
    exact ⟨tv, vv, nv, hk.cell_of c0 hn, hk.cell_of c1 hn, hk.cell_of c2 hn, hk.cell_of c3 hn, hk.cell_of c4 hn, hk.cell_of c5 hn, h1.keeps hk hF, h2.keeps hk hF, h3, fun g n cap e => StsIn.keeps hk hF g (h3.mem e) 0 body (h4 g n cap e)⟩
theorem CasIn.keeps {w w' : World} {F S : Nat → Prop} (hk : Keeps S w w') (hF : ∀ b, F b → ¬ S b) (g : Nat) (hg : F g) : ∀ (i : Nat) (xs : Cas), CasIn w F g i xs → CasIn w' F g i xs
  | _, .nil, _ => trivial
  | i, .cons x xs, h => ⟨CaIn.keeps hk hF g (i * 6) hg x h.1, CasIn.keeps hk hF g hg (i + 1) xs h.2⟩
end
end Go.Proofs.YtgonbmcojjcabaaGreatDoor
