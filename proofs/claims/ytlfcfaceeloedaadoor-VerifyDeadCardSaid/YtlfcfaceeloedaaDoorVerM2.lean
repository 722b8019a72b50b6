/-
  The plain mathematics of chapter 16: what can't be come to doesn't matter; a function more changes nothing. No walk.
-/
import Derived.Test.YtlfcfaceeloedaaDoorVerM
namespace Go.Proofs.YtlfcfaceeloedaaDoor
namespace Ve
open Cd

/-- A program whose functions are called alike: at least these. -/
structure SigLe (p q : Pg) : Prop where
  globals : q.globals = p.globals
  some_ : p.fns ≠ []
  fns : ∀ (j : Nat) (g : FnV), p.fns[j]? = some g → ∃ g', q.fns[j]? = some g' ∧ g'.params = g.params ∧ g'.locals = g.locals ∧ g'.kind = g.kind
/-- Functions that are alike but for what D says. -/
structure Like (D : Nat → Prop) (f f' : FnV) : Prop where
  params : f'.params = f.params
  locals : f'.locals = f.locals
  kind : f'.kind = f.kind
  len : f'.code.length = f.code.length
  code : ∀ j, ¬ D j → f'.code.getD j (0, 0) = f.code.getD j (0, 0)
theorem Like.refl (f : FnV) : Like (fun _ => False) f f := ⟨rfl, rfl, rfl, rfl, fun _ _ => rfl⟩
/-- Dead in all that is known. -/
def Dead (D : Nat → Prop) (s : VS) : Prop := ∀ j, D j → s.ahead.getD j none = none
theorem Grow.dead {D : Nat → Prop} {a b : VS} (h : Grow a b) (hb : Dead D b) : Dead D a := fun j hj => by
  cases e : a.ahead.getD j none with
  | none => rfl
  | some u => have := h.live j u e; rw [hb j hj] at this; cases this
variable {D : Nat → Prop} {f f' : FnV} {p q : Pg}
theorem come_like (hL : Like D f f') {s : VS} {n : Int} (hl : s.ahead.length = f.code.length) (hc : f.code ≠ []) (h0 : (VS.come f s n).wrong = 0) (hD : Dead D (VS.come f s n)) : VS.come f' s n = VS.come f s n := by
  have hpos : 0 < f.code.length := List.length_pos_iff.2 hc
  by_cases hD2 : D n.toNat
  · exfalso
    have hd := hD _ hD2
    unfold VS.come at h0 hd
    split at h0
    · rename_i e
      exact e h0
    · rename_i e
      rw [if_neg e] at hd
      split at h0
      · exact fail_ne _ (by decide) h0
      · rename_i e2
        rw [if_neg e2] at hd
        have hlt : n.toNat < s.ahead.length := by rw [hl]; omega
        split at h0
        · exact fail_ne _ (by decide) h0
        · rename_i e3
          rw [if_neg e3] at hd
          split at h0
          · rename_i u hu
            rw [hu] at hd
            dsimp only at hd
            split at h0
            · rename_i e4
              rw [if_pos e4] at hd
              dsimp only at hd
              rw [getD_set, if_pos ⟨rfl, hlt⟩] at hd
              cases hd
            · exact fail_ne _ (by decide) h0
          · rename_i hu
            rw [hu] at hd
            dsimp only at hd
            split at h0
            · exact fail_ne _ (by decide) h0
            · rename_i e4
              rw [if_neg e4] at hd
              dsimp only at hd
              rw [getD_set, if_pos ⟨rfl, hlt⟩] at hd
              cases hd
  · unfold VS.come
    rw [hL.len, hL.code _ hD2]
theorem next_like (hL : Like D f f') {s : VS} (hl : s.ahead.length = f.code.length) (hc : f.code ≠ []) (h0 : (VS.next f s).wrong = 0) (hD : Dead D (VS.next f s)) : VS.next f' s = VS.next f s := by
  unfold VS.next at h0 hD ⊢
  rw [hL.len]
  refine come_like hL ?_ hc h0 hD
  split
  · exact (grow_fail s 7).len.trans hl
  · exact hl
theorem local_like (hL : Like D f f') (i : In) (s : VS) : localS f' i s = localS f i s := by unfold localS; rw [hL.locals]
theorem ret_like (hL : Like D f f') (s : VS) : retS f' s = retS f s := by unfold retS; rw [hL.kind]
theorem call_like (hS : SigLe p q) {i : In} {s : VS} (h0 : (callS p i s).wrong = 0) : callS q i s = callS p i s := by
  have hpos : 0 < p.fns.length := List.length_pos_iff.2 hS.some_
  unfold callS at h0 ⊢
  split at h0
  · exact absurd h0 (fail_ne _ (by decide))
  · rename_i e
    have hlt : i.2.toNat < p.fns.length := by omega
    obtain ⟨g', h1, h2, h3, h4⟩ := hS.fns _ _ (List.getElem?_eq_getElem hlt)
    have hlt2 := (List.getElem?_eq_some_iff.1 h1).1
    rw [if_neg e, if_neg (show ¬ (q.fns.length : Int) ≤ i.2 by omega)]
    have e1 : p.fns.getD i.2.toNat default = p.fns[i.2.toNat] := by rw [List.getD_eq_getElem?_getD, List.getElem?_eq_getElem hlt]; rfl
    have e2 : q.fns.getD i.2.toNat default = g' := by rw [List.getD_eq_getElem?_getD, h1]; rfl
    rw [e1, e2]
    dsimp only
    rw [h2, h3, h4]
theorem global_like (hS : SigLe p q) (i : In) (s : VS) : globalS q i s = globalS p i s := by unfold globalS; rw [hS.globals]
theorem change_like (hS : SigLe p q) (hL : Like D f f') {i : In} {s : VS} (h0 : (changeS p f i s).wrong = 0) : changeS q f' i s = changeS p f i s := by
  unfold changeS at h0 ⊢
  rw [local_like hL, global_like hS]
  by_cases hc : i.1 = 13 ∨ i.1 = 15
  · rw [if_neg (by omega), if_neg (by omega), if_neg (by omega), if_neg (by omega), if_neg (by omega), if_neg (by omega), if_neg (by omega), if_pos hc] at h0
    rw [call_like hS h0]
  · rw [if_neg hc, if_neg hc]
theorem cases_like (hL : Like D f f') {a : Nat} {n : Int} (h : ∀ j, a < j → (j : Int) ≤ a + n → ¬ D j) : casesOf f' a n = casesOf f a n := by
  unfold casesOf
  apply List.ext_getElem?
  intro j
  rw [List.getElem?_take, List.getElem?_take]
  split
  · rename_i hj
    rw [List.getElem?_drop, List.getElem?_drop]
    have := hL.code (a + 1 + j) (h _ (by omega) (by omega))
    rw [List.getD_eq_getElem?_getD, List.getD_eq_getElem?_getD] at this
    by_cases hlt : a + 1 + j < f.code.length
    · rw [List.getElem?_eq_getElem hlt, List.getElem?_eq_getElem (by rw [hL.len]; exact hlt)] at this ⊢
      exact congrArg some this
    · rw [List.getElem?_eq_none (show f'.code.length ≤ a + 1 + j by rw [hL.len]; omega), List.getElem?_eq_none (show f.code.length ≤ a + 1 + j by omega)]
  · rfl
theorem leadOne_like (hL : Like D f f') (rest : Wt) {s : VS} {c : In} (hl : s.ahead.length = f.code.length) (hc : f.code ≠ []) (h0 : (leadOne f rest s c).wrong = 0) (hD : Dead D (leadOne f rest s c)) : leadOne f' rest s c = leadOne f rest s c := by
  unfold leadOne at h0 hD ⊢
  refine come_like hL ?_ hc h0 hD
  split
  · exact (grow_put ({ s with waits := rest } : VS) (by decide)).len.trans hl
  · exact hl
theorem lead_like (hL : Like D f f') {rest : Wt} (hr : KOk rest) (hc : f.code ≠ []) : ∀ (cs : List In) (s : VS), s.ahead.length = f.code.length → (cs.foldl (leadOne f rest) s).wrong = 0 → Dead D (cs.foldl (leadOne f rest) s) → cs.foldl (leadOne f' rest) s = cs.foldl (leadOne f rest) s
  | [], s, _, _, _ => rfl
  | c :: cs, s, hl, h0, hD => by
    rw [List.foldl_cons] at h0 hD ⊢
    have g := grow_lead f rest hr cs (leadOne f rest s c)
    rw [List.foldl_cons, leadOne_like hL rest hl hc (g.zero h0) (g.dead hD)]
    exact lead_like hL hr hc cs _ ((grow_leadOne f rest s c hr).len.trans hl) h0 hD
theorem choose_like (hL : Like D f f') {n : Int} {s : VS} (hl : s.ahead.length = f.code.length) (hc : f.code ≠ []) (hw : KOk s.waits) (h : ∀ j, s.at_ < j → (j : Int) ≤ s.at_ + n → ¬ D j) (h0 : (chooseS f n s).wrong = 0) (hD : Dead D (chooseS f n s)) : chooseS f' n s = chooseS f n s := by
  unfold chooseS at h0 hD ⊢
  rw [hL.len]
  by_cases e1 : 6 < n
  · rw [if_pos e1, if_pos e1]
  · rw [if_neg e1, if_neg e1]
    rw [if_neg e1] at h0 hD
    by_cases e2 : ((f.code.length - (s.at_ + 1) : Nat) : Int) < n
    · rw [if_pos e2, if_pos e2]
    · rw [if_neg e2, if_neg e2, cases_like hL h]
      rw [if_neg e2] at h0 hD
      have g := grow_cases s (casesOf f s.at_ n)
      exact lead_like hL (g.new hw).1 hc _ _ (g.len.trans hl) h0 hD
theorem ins_like (hS : SigLe p q) (hp : PgK p) (hf : FnK f) (hL : Like D f f') {i : In} {s : VS} (hl : s.ahead.length = f.code.length) (hc : f.code ≠ []) (hw : KOk s.waits) (h : i.1 = 23 → ∀ j, s.at_ < j → (j : Int) ≤ s.at_ + i.2 → ¬ D j)
    (h0 : (insS p f i s).wrong = 0) (hD : Dead D (insS p f i s)) : insS q f' i s = insS p f i s := by
  unfold insS at h0 hD ⊢
  by_cases e1 : i.1 = 11
  · rw [if_pos e1, if_pos e1]
    rw [if_pos e1] at h0 hD
    exact come_like hL hl hc h0 hD
  rw [if_neg e1, if_neg e1]
  rw [if_neg e1] at h0 hD
  by_cases e2 : i.1 = 12
  · rw [if_pos e2, if_pos e2]
    rw [if_pos e2] at h0 hD
    have g := grow_next f (VS.come f (s.take1 2) i.2)
    rw [come_like hL ((grow_take1 s 2).len.trans hl) hc (g.zero h0) (g.dead hD)]
    exact next_like hL (((grow_take1 s 2).trans (grow_come f _ _)).len.trans hl) hc h0 hD
  rw [if_neg e2, if_neg e2]
  rw [if_neg e2] at h0 hD
  by_cases e3 : i.1 = 14
  · rw [if_pos e3, if_pos e3]
    exact ret_like hL s
  rw [if_neg e3, if_neg e3]
  rw [if_neg e3] at h0 hD
  by_cases e4 : i.1 = 23
  · rw [if_pos e4, if_pos e4]
    rw [if_pos e4] at h0 hD
    exact choose_like hL hl hc hw (h e4) h0 hD
  rw [if_neg e4, if_neg e4]
  rw [if_neg e4] at h0 hD
  by_cases e5 : caseB i.1 = true
  · rw [if_pos e5, if_pos e5]
  rw [if_neg e5, if_neg e5]
  rw [if_neg e5] at h0 hD
  have g := grow_next f (changeS p f i s)
  rw [change_like hS hL (g.zero h0)]
  exact next_like hL ((grow_change p f i s hp hf).len.trans hl) hc h0 hD
theorem step_like (hS : SigLe p q) (hp : PgK p) (hf : FnK f) (hL : Like D f f') {k : Nat} {s : VS} (hw : WayI f k s) (hc : f.code ≠ []) (h : ∀ u, s.ahead.getD k none = some u → (f.code.getD k (0, 0)).1 = 23 → ∀ j, k < j → (j : Int) ≤ k + (f.code.getD k (0, 0)).2 → ¬ D j)
    (h0 : (stepS p f k s).wrong = 0) (hD : Dead D (stepS p f k s)) : stepS q f' k s = stepS p f k s := by
  cases e : s.ahead.getD k none with
  | none => unfold stepS; rw [e]
  | some u =>
    have hnd : ¬ D k := fun g => by have := step_live hp hf hw e; rw [hD k g] at this; cases this
    unfold stepS at h0 hD ⊢
    rw [e] at h0 hD ⊢
    dsimp only at h0 hD ⊢
    rw [hL.code k hnd]
    exact ins_like hS hp hf hL hw.len hc (hw.kok k u e) (h u e) h0 hD
theorem loop_like (hS : SigLe p q) (hp : PgK p) (hf : FnK f) (hL : Like D f f') (hc : f.code ≠ []) : ∀ (n k : Nat) (s : VS), WayI f k s → (loopS p f n k s).wrong = 0 → Dead D (loopS p f n k s) →
    (∀ a u, (loopS p f n k s).ahead.getD a none = some u → (f.code.getD a (0, 0)).1 = 23 → ∀ j, a < j → (j : Int) ≤ a + (f.code.getD a (0, 0)).2 → ¬ D j) → loopS q f' n k s = loopS p f n k s
  | 0, k, s, _, _, _, _ => rfl
  | n + 1, k, s, hw, h0, hD, h => by
    unfold loopS at h0 hD h ⊢
    by_cases e : (stepS p f k s).wrong = 0
    · rw [if_neg (fun g => g e)] at h0 hD h
      have hw2 := way_step hp hf hw e
      obtain ⟨_, h2, _⟩ := loop_live hp hf n (k + 1) _ hw2 h0
      have hd : Dead D (stepS p f k s) := fun j hj => by
        cases e2 : (stepS p f k s).ahead.getD j none with
        | none => rfl
        | some u => have := h2 j u e2; rw [hD j hj] at this; cases this
      rw [step_like hS hp hf hL hw hc (fun u hu => h k u (h2 k u (step_live hp hf hw hu))) e hd, if_neg (fun g => g e), if_neg (fun g => g e)]
      exact loop_like hS hp hf hL hc n (k + 1) _ hw2 h0 hD h
    · rw [if_pos e] at h0
      exact absurd h0 e
theorem fn_like (hS : SigLe p q) (hp : PgK p) (hf : FnK f) (hL : Like D f f') (h0 : (fnS p f).wrong = 0) (hD : Dead D (fnS p f))
    (h : ∀ a u, (fnS p f).ahead.getD a none = some u → (f.code.getD a (0, 0)).1 = 23 → ∀ j, a < j → (j : Int) ≤ a + (f.code.getD a (0, 0)).2 → ¬ D j) : fnS q f' = fnS p f := by
  by_cases hc : f.code = []
  · unfold fnS at h0
    rw [if_pos hc] at h0
    cases h0
  · have hc' : f'.code ≠ [] := fun e => hc (List.length_eq_zero_iff.1 (by rw [← hL.len, e]; rfl))
    unfold fnS at h0 hD h ⊢
    rw [if_neg hc] at h0 hD h
    rw [if_neg hc, if_neg hc', hL.len, show startS f' = startS f by unfold startS; rw [hL.len]]
    exact loop_like hS hp hf hL hc _ _ _ (way_start f hc) h0 hD h
end Ve
end Go.Proofs.YtlfcfaceeloedaaDoor
