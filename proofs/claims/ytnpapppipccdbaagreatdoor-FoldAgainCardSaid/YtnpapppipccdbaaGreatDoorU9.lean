/-
  Texts of one proof, in build order: TreeWC TreeWD FoldA2 FoldA3 FoldA4 FoldAgainJ1 FoldAgainJ2
-/
import Derived.Test.YtnpapppipccdbaaGreatDoorU8
import Derived.Test.YtnpapppipccdbaaGreatDoorRows
import Derived.ProofKit
import Derived.SizedLaws
import Derived.Stop.Joined
set_option maxRecDepth 100000
set_option maxHeartbeats 12800000
namespace Go.Proofs.YtnpapppipccdbaaGreatDoor
open Lx Tr
namespace Tr
theorem K5 (k : Nat) (x : Ex) : brk k x <= brk (k + 1) x := by
 cases x with
 | nil => exact Nat.le_refl _
 | mk code a n op nm l r zs =>
  by_cases c : code = 5 /\ bN op < k
  ·rw [u9 c, u9 ⟨c.1, by have := c.2; omega⟩]; exact Nat.le_refl _
  ·rw [jT c]; exact Nat.zero_le _
mutual
theorem dE : ∀ (x : Ex) (d e : Nat), e <= d -> bJ x d -> bJ x e
 | .nil, _, _, _, h => by rw [bJ] at h; exact h.elim
 | .mk code a n op nm l r zs, d, e, he, h => by
  rw [bJ] at h ⊢
  obtain ⟨hd, h⟩ := h
  refine ⟨by omega, ?_⟩
  rcases h with h | h | h | h | ⟨c, h0, h1, h2, hv, h3, h4⟩ | ⟨c, h0, h1, h2, h3, ho, h4⟩ | ⟨c, h0, h1, h2, h3, h4, h5⟩ | ⟨c, h0, h1, h2, h3, h4, h5⟩ | ⟨c, h0, h1, hw, h3, h4, h5⟩
  ·exact Or.inl h
  ·exact Or.inr (Or.inl h)
  ·exact Or.inr (Or.inr (Or.inl h))
  ·exact Or.inr (Or.inr (Or.inr (Or.inl h)))
  ·exact Or.inr (Or.inr (Or.inr (Or.inr (Or.inl ⟨c, h0, h1, h2, hv, dE l _ _ (by omega) h3, dE r _ _ (by omega) h4⟩))))
  ·exact Or.inr (Or.inr (Or.inr (Or.inr (Or.inr (Or.inl ⟨c, h0, h1, h2, h3, ho, dE l _ _ (by omega) h4⟩)))))
  ·exact Or.inr (Or.inr (Or.inr (Or.inr (Or.inr (Or.inr (Or.inl ⟨c, h0, h1, h2, h3, h4, dE l _ _ (by omega) h5⟩))))))
  ·exact Or.inr (Or.inr (Or.inr (Or.inr (Or.inr (Or.inr (Or.inr (Or.inl ⟨c, h0, h1, h2, h3, h4, dE l _ _ (by omega) h5⟩)))))))
  ·exact Or.inr (Or.inr (Or.inr (Or.inr (Or.inr (Or.inr (Or.inr (Or.inr ⟨c, h0, h1, hw, h3, h4, rF zs _ _ (by omega) h5⟩)))))))
theorem rF : ∀ (zs : Exs) (d e : Nat), e <= d -> dS zs d -> dS zs e
 | .nil, _, _, _, _ => by rw [dS]; trivial
 | .cons x xs, d, e, he, h => by
  rw [dS] at h ⊢
  exact ⟨dE x d e he h.1, rF xs d e he h.2⟩
end
structure TokOk (E : Env) : Prop where
 words : ∀ n, (pk E n).kind = 1 -> WordT 1 (pk E n).text
 nums : ∀ n, (pk E n).kind = 3 -> dY (pk E n).text <= 9223372036854775807
theorem o9 : ∀ (xs : Exs) (y : Ex) (d : Nat), dS xs d -> bJ y d -> dS (xs.snoc y) d
 | .nil, y, d, _, h => by rw [Exs.snoc, dS, dS]; exact ⟨h, trivial⟩
 | .cons x xs, y, d, h, h2 => by
  rw [dS] at h
  rw [Exs.snoc, dS]
  exact ⟨h.1, o9 xs y d h.2 h2⟩
theorem j6 {E : Env} {code k d n : Nat} {nm : B} (hd : d <= 12) (h : (code = 1 /\ k <= 9223372036854775807 /\ nm = []) \/ (code = 2 /\ k <= 1 /\ nm = []) \/ (code = 3 /\ k = 0 /\ nm = []) \/ (code = 4 /\ k = 0 /\ WordT 1 nm)) : eN (leaf code (pk E n).at_ k nm) d := by
 unfold eN leaf
 rw [jT (by rintro ⟨e, _⟩; rcases h with h | h | h | h <;> omega), bJ]
 refine ⟨hd, ?_⟩
 rcases h with ⟨rfl, h1, rfl⟩ | ⟨rfl, h1, rfl⟩ | ⟨rfl, rfl, rfl⟩ | ⟨rfl, rfl, hw⟩
 ·exact Or.inl ⟨rfl, h1, rfl, rfl, rfl, rfl, rfl⟩
 ·exact Or.inr (Or.inl ⟨rfl, h1, rfl, rfl, rfl, rfl, rfl⟩)
 ·exact Or.inr (Or.inr (Or.inl ⟨rfl, rfl, rfl, rfl, rfl, rfl, rfl⟩))
 ·exact Or.inr (Or.inr (Or.inr (Or.inl ⟨rfl, rfl, rfl, hw, rfl, rfl, rfl⟩)))
structure Gds (E : Env) (f : Nat) : Prop where
 one : ∀ d n x m, one E f d n = .ok x m -> eN x d
 bracketed : ∀ d n x m, bracketed E f d n = .ok x m -> bJ x (d + 1)
 tied : ∀ l d n x m, 1 <= l -> l <= 6 -> tied E f l d n = .ok x m -> bJ x (d + brk l x)
 tloop : ∀ l d a n x m, 1 <= l -> l <= 5 -> tloop E f l d a n = .ok x m -> bJ a (d + brk l a) -> bJ x (d + brk l x)
 named : ∀ d n x m, d <= 12 -> (pk E n).kind = 1 -> named E f d n = .ok x m -> eN x d
 call : ∀ d t n x m, d <= 12 -> WordT 1 t.text -> call E f d t n = .ok x m -> eN x d /\ codeOf x = 7
 args : ∀ d a n x m, args E f d a n = .ok x m -> dS a (d + 1) -> dS x (d + 1)
theorem gds {E : Env} (hT : TokOk E) (f : Nat) : Gds E f := by
 induction f with
 | zero =>
  constructor
  ·intro _ _ _ _ h; rw [Tr.one] at h; cases h
  ·intro _ _ _ _ h; rw [Tr.bracketed] at h; cases h
  ·intro _ _ _ _ _ _ _ h; rw [Tr.tied] at h; cases h
  ·intro _ _ _ _ _ _ _ _ h; rw [Tr.tloop] at h; cases h
  ·intro _ _ _ _ _ _ h; rw [Tr.named] at h; cases h
  ·intro _ _ _ _ _ _ _ h; rw [Tr.call] at h; cases h
  ·intro _ _ _ _ _ h; rw [Tr.args] at h; cases h
 | succ f ih =>
  constructor
  ·intro d n x m h
   rw [Tr.one] at h
   by_cases c0 : 12 < d
   ·rw [if_pos c0] at h; exact (aP h).elim
   rw [if_neg c0] at h
   have hd : d <= 12 := by omega
   by_cases c1 : (pk E n).kind = 3
   ·rw [if_pos c1] at h
    cases h
    exact j6 hd (Or.inl ⟨rfl, hT.nums n c1, rfl⟩)
   rw [if_neg c1] at h
   by_cases c2 : (pk E n).kind = 1
   ·rw [if_pos c2] at h
    exact ih.named _ _ _ _ hd c2 h
   rw [if_neg c2] at h
   by_cases c3 : (pk E n).text = tLp
   ·rw [if_pos c3] at h
    have q := ih.bracketed _ _ _ _ h
    refine dE x (d + 1) _ ?_ q
    cases x with
    | nil => exact Nat.le_succ _
    | mk code a k op nm l r zs =>
     by_cases c : code = 5 /\ bN op < 6
     ·rw [u9 c]; exact Nat.le_refl _
     ·rw [jT c]; exact Nat.le_succ _
   rw [if_neg c3] at h
   by_cases c4 : (pk E n).text = [45] \/ (pk E n).text = [94] \/ (pk E n).text = [33]
   ·rw [if_pos c4] at h
    obtain ⟨y, n1, h1, h⟩ := aA h
    cases h
    unfold eN
    rw [jT (fun e => by cases e.1), bJ]
    exact ⟨hd, Or.inr (Or.inr (Or.inr (Or.inr (Or.inr (Or.inl ⟨rfl, rfl, rfl, rfl, rfl, by rcases c4 with e | e | e <;> rw [e] <;> decide, ih.one _ _ _ _ h1⟩)))))⟩
   rw [if_neg c4] at h
   by_cases c5 : (pk E n).text = aM
   ·rw [if_pos c5] at h
    obtain ⟨y, n1, h1, h⟩ := aA h
    cases h
    unfold eN
    rw [jT (fun e => by cases e.1), bJ]
    exact ⟨hd, Or.inr (Or.inr (Or.inr (Or.inr (Or.inr (Or.inr (Or.inl ⟨rfl, rfl, rfl, rfl, rfl, rfl, ih.one _ _ _ _ h1⟩))))))⟩
   rw [if_neg c5] at h
   by_cases c6 : (pk E n).text = dZ
   ·rw [if_pos c6] at h
    obtain ⟨y, n1, h1, h⟩ := aA h
    cases h
    unfold eN
    rw [jT (fun e => by cases e.1), bJ]
    exact ⟨hd, Or.inr (Or.inr (Or.inr (Or.inr (Or.inr (Or.inr (Or.inr (Or.inl ⟨Or.inl rfl, rfl, rfl, rfl, rfl, rfl, ih.bracketed _ _ _ _ h1⟩)))))))⟩
   rw [if_neg c6] at h
   by_cases c7 : (pk E n).text = iR
   ·rw [if_pos c7] at h
    obtain ⟨y, n1, h1, h⟩ := aA h
    cases h
    unfold eN
    rw [jT (fun e => by cases e.1), bJ]
    exact ⟨hd, Or.inr (Or.inr (Or.inr (Or.inr (Or.inr (Or.inr (Or.inr (Or.inl ⟨Or.inr rfl, rfl, rfl, rfl, rfl, rfl, ih.bracketed _ _ _ _ h1⟩)))))))⟩
   rw [if_neg c7] at h
   by_cases c8 : (pk E n).text = eY
   ·rw [if_pos c8] at h
    cases h
    exact j6 hd (Or.inr (Or.inl ⟨rfl, by omega, rfl⟩))
   rw [if_neg c8] at h
   by_cases c9 : (pk E n).text = cW
   ·rw [if_pos c9] at h
    cases h
    exact j6 hd (Or.inr (Or.inl ⟨rfl, by omega, rfl⟩))
   rw [if_neg c9] at h
   by_cases c10 : (pk E n).text = iS
   ·rw [if_pos c10] at h
    cases h
    exact j6 hd (Or.inr (Or.inr (Or.inl ⟨rfl, rfl, rfl⟩)))
   rw [if_neg c10] at h
   exact (aP h).elim
  ·intro d n x m h
   rw [bX] at h
   obtain ⟨_, n1, h1, h⟩ := aA h
   obtain ⟨y, n2, h2, h⟩ := aA h
   obtain ⟨_, n3, h3, h⟩ := aA h
   cases h
   exact dE _ _ _ (Nat.le_add_right _ _) (ih.tied _ _ _ _ _ (by decide) (by decide) h2)
  ·intro l d n x m hl1 hl6 h
   rw [iT] at h
   by_cases c : l = 6
   ·rw [if_pos c] at h
    rw [c]
    exact ih.one _ _ _ _ h
   ·rw [if_neg c] at h
    obtain ⟨y, n1, h1, h⟩ := aA h
    exact ih.tloop _ _ _ _ _ _ hl1 (by omega) h (dE _ _ _ (Nat.add_le_add_left (K5 l y) d) (ih.tied _ _ _ _ _ (by omega) (by omega) h1))
  ·intro l d a n x m hl1 hl5 h ha
   rw [hM] at h
   by_cases c : bN (opV (pk E n).text) = l
   ·rw [if_pos c] at h
    obtain ⟨y, n1, h1, h⟩ := aA h
    have q := ih.tied _ _ _ _ _ (by omega) (by omega) h1
    refine ih.tloop _ _ _ _ _ _ hl1 hl5 h ?_
    have hd : d <= 12 := by
     cases a with
     | nil => rw [bJ] at ha; exact ha.elim
     | mk => rw [bJ] at ha; have := ha.1; omega
    rw [jT (fun e => by have := e.2; omega), bJ]
    exact ⟨hd, Or.inr (Or.inr (Or.inr (Or.inr (Or.inl ⟨rfl, rfl, rfl, rfl, by omega, by rw [c]; exact ha, by rw [c]; exact q⟩))))⟩
   ·rw [if_neg c] at h
    cases h
    exact ha
  ·intro d n x m hd hk h
   rw [hU] at h
   by_cases c : (pk E (n + 1)).text = tLp
   ·rw [if_pos c] at h
    exact (ih.call _ _ _ _ _ hd (hT.words n hk) h).1
   ·rw [if_neg c] at h
    cases h
    exact j6 hd (Or.inr (Or.inr (Or.inr ⟨rfl, rfl, hT.words n hk⟩)))
  ·intro d t n x m hd ht h
   rw [iU] at h
   obtain ⟨_, n1, h1, h⟩ := aA h
   have key : ∀ zs, dS zs (d + 1) -> eN (.mk 7 t.at_ 0 0 t.text .nil .nil zs) d := fun zs hz => by
    unfold eN
    rw [jT (fun e => by cases e.1), bJ]
    exact ⟨hd, Or.inr (Or.inr (Or.inr (Or.inr (Or.inr (Or.inr (Or.inr (Or.inr ⟨rfl, rfl, rfl, ht, rfl, rfl, hz⟩)))))))⟩
   by_cases c : (pk E n1).text = tRp
   ·rw [if_pos c] at h
    cases h
    exact ⟨key .nil (by rw [dS]; trivial), rfl⟩
   ·rw [if_neg c] at h
    obtain ⟨y, n2, h2, h⟩ := aA h
    cases h
    exact ⟨key _ (ih.args _ _ _ _ _ h2 (by rw [dS]; trivial)), rfl⟩
  ·intro d a n x m h ha
   rw [kA] at h
   obtain ⟨y, n1, h1, h⟩ := aA h
   have q := o9 _ _ _ ha (dE _ _ _ (Nat.le_add_right _ _) (ih.tied _ _ _ _ _ (by decide) (by decide) h1))
   by_cases c : (pk E n1).text = cB
   ·rw [if_pos c] at h
    exact ih.args _ _ _ _ _ h q
   ·rw [if_neg c] at h
    obtain ⟨_, n2, h2, h⟩ := aA h
    cases h
    exact q
theorem dX {E : Env} (hT : TokOk E) {f d n m : Nat} {x : Ex} (h : dJ E f d n = .ok x m) : bJ x d := dE _ _ _ (Nat.le_add_right _ _) ((gds hT f).tied _ _ _ _ _ (by decide) (by decide) h)
theorem pA : ∀ (xs : Sts) (y : St) (d : Nat), dT xs d -> eW y d -> dT (xs.snoc y) d
 | .nil, y, d, _, h => by rw [Sts.snoc, dT, dT]; exact ⟨h, trivial⟩
 | .cons x xs, y, d, h, h2 => by
  rw [dT] at h
  rw [Sts.snoc, dT]
  exact ⟨h.1, pA xs y d h.2 h2⟩
theorem pB : ∀ (xs : Cas) (y : Ca) (d : Nat), gK xs d -> rE y d -> gK (xs.snoc y) d
 | .nil, y, d, _, h => by rw [Cas.snoc, gK, gK]; exact ⟨h, trivial⟩
 | .cons x xs, y, d, h, h2 => by
  rw [gK] at h
  rw [Cas.snoc, gK]
  exact ⟨h.1, pB xs y d h.2 h2⟩
theorem kU (d : Nat) : dT .nil d := by rw [dT]; trivial
theorem AD (d : Nat) : gK .nil d := by rw [gK]; trivial
theorem GZ {x : Ex} (h : codeOf x = 7 \/ codeOf x = 10) : brk 6 x = 0 := by
 cases x with
 | nil => rfl
 | mk code a k op nm l r zs =>
  refine jT ?_
  rintro ⟨rfl, _⟩
  rcases h with h | h <;> cases h
theorem m8 {x : Ex} {d : Nat} (hg : eN x d) (h : codeOf x = 7 \/ codeOf x = 10) : bJ x d := by
 unfold eN at hg
 rw [GZ h] at hg
 exact hg
theorem AE {x : Ex} {d : Nat} (hg : eN x d) (h : codeOf x = 10) : eN (leftOf x) (d + 1) := by
 have hb := m8 hg (Or.inr h)
 cases x with
 | nil => cases h
 | mk code a k op nm l r zs =>
  have hc : code = 10 := h
  subst hc
  rw [bJ] at hb
  obtain ⟨_, hb⟩ := hb
  rcases hb with ⟨h, _⟩ | ⟨h, _⟩ | ⟨h, _⟩ | ⟨h, _⟩ | ⟨h, _⟩ | ⟨h, _⟩ | ⟨_, _, _, _, _, _, h⟩ | ⟨h, _⟩ | ⟨h, _⟩
  ·cases h
  ·cases h
  ·cases h
  ·cases h
  ·cases h
  ·cases h
  ·exact h
  ·rcases h with h | h <;> cases h
  ·cases h
theorem AF {E : Env} (hT : TokOk E) {f n m dep : Nat} {s : St} (h : cN E f n = .ok s m) : eW s dep := by
 unfold cN at h
 by_cases c1 : (pk E n).kind = 1 /\ (pk E (n + 1)).text = iQ
 ·rw [if_pos c1] at h
  obtain ⟨y, n1, h1, h⟩ := aA h
  cases h
  unfold stz
  rw [eW]
  exact Or.inl ⟨Or.inl rfl, hT.words n c1.1, rfl, dX hT h1, rfl, rfl, rfl⟩
 rw [if_neg c1] at h
 by_cases c2 : (pk E n).kind = 1 /\ (pk E (n + 1)).text = pW
 ·rw [if_pos c2] at h
  obtain ⟨y, n1, h1, h⟩ := aA h
  cases h
  unfold stz
  rw [eW]
  exact Or.inl ⟨Or.inr rfl, hT.words n c2.1, rfl, dX hT h1, rfl, rfl, rfl⟩
 rw [if_neg c2] at h
 obtain ⟨y, n1, h1, h⟩ := aA h
 have q := (gds hT f).one _ _ _ _ h1
 by_cases c3 : (pk E n1).text = aM
 ·rw [if_pos c3] at h
  obtain ⟨z, n2, h2, h⟩ := aA h
  cases h
  unfold stz
  rw [eW]
  exact Or.inr (Or.inl ⟨rfl, rfl, q, dX hT h2, rfl, rfl, rfl⟩)
 rw [if_neg c3] at h
 by_cases c4 : codeOf y = 7 \/ codeOf y = 10
 ·rw [if_pos c4] at h
  cases h
  unfold stz
  rw [eW]
  exact Or.inr (Or.inr (Or.inr (Or.inr (Or.inr (Or.inr (Or.inr (Or.inl ⟨rfl, rfl, rfl, m8 q c4, c4, rfl, rfl, rfl⟩)))))))
 rw [if_neg c4] at h
 exact (aP h).elim
def LQ (t : Nat × B × Ex × Ex) : Prop := (t.1 = 3 /\ t.2.1 = [] /\ eN t.2.2.1 0 /\ bJ t.2.2.2 0) \/ (t.1 = 10 /\ t.2.1 = [] /\ eN t.2.2.1 1 /\ t.2.2.2 = .nil) \/ (t.1 = 10 /\ WordT 1 t.2.1 /\ eN t.2.2.1 0 /\ t.2.2.2 = .nil)
theorem EF {E : Env} (hT : TokOk E) {f n m : Nat} {s : Nat × B × Ex × Ex} (h : hH E f n = .ok s m) : LQ s := by
 unfold hH at h
 by_cases c1 : (pk E n).kind = 1 /\ (pk E (n + 1)).text = iQ
 ·rw [if_pos c1] at h
  obtain ⟨_, n0, h0, h⟩ := aA h
  obtain ⟨y, n1, h1, h⟩ := aA h
  cases h
  exact Or.inr (Or.inr ⟨rfl, hT.words n c1.1, (gds hT f).one _ _ _ _ h1, rfl⟩)
 rw [if_neg c1] at h
 obtain ⟨y, n1, h1, h⟩ := aA h
 have q := (gds hT f).one _ _ _ _ h1
 by_cases c3 : (pk E n1).text = aM
 ·rw [if_pos c3] at h
  obtain ⟨z, n2, h2, h⟩ := aA h
  cases h
  exact Or.inl ⟨rfl, rfl, q, dX hT h2⟩
 rw [if_neg c3] at h
 by_cases c4 : codeOf y = 10
 ·rw [if_pos c4] at h
  cases h
  exact Or.inr (Or.inl ⟨rfl, rfl, AE q c4, rfl⟩)
 rw [if_neg c4] at h
 exact (aP h).elim
structure Sgds (E : Env) (f : Nat) : Prop where
 block : ∀ dep n x m, block E f dep n = .ok x m -> dep < 12 /\ dT x (dep + 1)
 stmts : ∀ dep cs a n x m, stmts E f dep cs a n = .ok x m -> dT a dep -> dT x dep
 stmt : ∀ dep n x m, stmt E f dep n = .ok x m -> eW x dep
 cases : ∀ dep a n x m, cases E f dep a n = .ok x m -> a.len <= 6 -> gK a dep -> x.len <= 6 /\ gK x dep
 oneCase : ∀ dep n x m, oneCase E f dep n = .ok x m -> rE x dep
theorem L8 {E : Env} (hT : TokOk E) (f : Nat) : Sgds E f := by
 induction f with
 | zero =>
  constructor
  ·intro _ _ _ _ h; rw [Tr.block] at h; cases h
  ·intro _ _ _ _ _ _ h; rw [Tr.stmts] at h; cases h
  ·intro _ _ _ _ h; rw [Tr.stmt] at h; cases h
  ·intro _ _ _ _ _ h; rw [Tr.cases] at h; cases h
  ·intro _ _ _ _ h; rw [Tr.oneCase] at h; cases h
 | succ f ih =>
  constructor
  ·intro dep n x m h
   rw [jW] at h
   obtain ⟨_, n1, h1, h⟩ := aA h
   obtain ⟨y, n2, h2, h⟩ := aA h
   obtain ⟨_, n3, h3, h⟩ := aA h
   cases h
   exact ⟨(nT h1).2, ih.stmts _ _ _ _ _ _ h2 (kU _)⟩
  ·intro dep cs a n x m h ha
   rw [gB] at h
   by_cases c : (pk E n).text = tRb \/ (cs = true /\ ((pk E n).text = gM \/ (pk E n).text = bE))
   ·rw [if_pos c] at h
    cases h
    exact ha
   rw [if_neg c] at h
   obtain ⟨y, n1, h1, h⟩ := aA h
   have q := pA _ _ _ ha (ih.stmt _ _ _ _ h1)
   by_cases c2 : (pk E n1).text = tRb
   ·rw [if_pos c2] at h
    exact ih.stmts _ _ _ _ _ _ h q
   ·rw [if_neg c2] at h
    obtain ⟨_, n2, h2, h⟩ := aA h
    exact ih.stmts _ _ _ _ _ _ h q
  ·intro dep n x m h
   rw [dA] at h
   by_cases c0 : (pk E n).text = iI
   ·rw [if_pos c0] at h
    obtain ⟨y, n1, h1, h⟩ := aA h
    cases h
    unfold stz
    rw [eW]
    exact Or.inr (Or.inr (Or.inl ⟨rfl, rfl, rfl, (gds hT f).bracketed _ _ _ _ h1, rfl, rfl, rfl⟩))
   rw [if_neg c0] at h
   by_cases c1 : (pk E n).text = iJ
   ·rw [if_pos c1] at h
    obtain ⟨y, n1, h1, h⟩ := aA h
    cases h
    unfold stz
    rw [eW]
    exact Or.inr (Or.inr (Or.inr (Or.inl ⟨Or.inl rfl, rfl, rfl, dX hT h1, rfl, rfl, rfl⟩)))
   rw [if_neg c1] at h
   by_cases c2 : (pk E n).text = iK
   ·rw [if_pos c2] at h
    obtain ⟨y, n1, h1, h⟩ := aA h
    cases h
    unfold stz
    rw [eW]
    exact Or.inr (Or.inr (Or.inr (Or.inl ⟨Or.inr rfl, rfl, rfl, dX hT h1, rfl, rfl, rfl⟩)))
   rw [if_neg c2] at h
   by_cases c3 : (pk E n).text = tGo
   ·rw [if_pos c3] at h
    obtain ⟨t, n1, h1, h⟩ := aA h
    obtain ⟨y, n2, h2, h⟩ := aA h
    cases h
    have ht : (pk E (n + 1)).kind = 1 := by
     unfold aF Tr.fail at h1
     split at h1
     ·assumption
     ·cases h1
    obtain ⟨_, rfl⟩ := cA h1
    obtain ⟨q1, q2⟩ := (gds hT f).call _ _ _ _ _ (by decide) (hT.words _ ht) h2
    unfold stz
    rw [eW]
    exact Or.inr (Or.inr (Or.inr (Or.inr (Or.inl ⟨rfl, rfl, rfl, m8 q1 (Or.inl q2), q2, rfl, rfl, rfl⟩))))
   rw [if_neg c3] at h
   by_cases c4 : (pk E n).text = dH
   ·rw [if_pos c4] at h
    by_cases c : (pk E (n + 1)).kind = 5 \/ (pk E (n + 1)).text = tRb
    ·rw [if_pos c] at h
     cases h
     unfold stz
     rw [eW]
     exact Or.inr (Or.inr (Or.inr (Or.inr (Or.inr (Or.inl ⟨rfl, rfl, rfl, Or.inl rfl, rfl, rfl, rfl⟩)))))
    ·rw [if_neg c] at h
     obtain ⟨y, n1, h1, h⟩ := aA h
     cases h
     unfold stz
     rw [eW]
     exact Or.inr (Or.inr (Or.inr (Or.inr (Or.inr (Or.inl ⟨rfl, rfl, rfl, Or.inr (dX hT h1), rfl, rfl, rfl⟩)))))
   rw [if_neg c4] at h
   by_cases c5 : (pk E n).text = iL
   ·rw [if_pos c5] at h
    cases h
    unfold stz
    rw [eW]
    exact Or.inr (Or.inr (Or.inr (Or.inr (Or.inr (Or.inr (Or.inl ⟨Or.inl rfl, rfl, rfl, rfl, rfl, rfl, rfl⟩))))))
   rw [if_neg c5] at h
   by_cases c6 : (pk E n).text = cP
   ·rw [if_pos c6] at h
    cases h
    unfold stz
    rw [eW]
    exact Or.inr (Or.inr (Or.inr (Or.inr (Or.inr (Or.inr (Or.inl ⟨Or.inr rfl, rfl, rfl, rfl, rfl, rfl, rfl⟩))))))
   rw [if_neg c6] at h
   by_cases c7 : (pk E n).text = tIf
   ·rw [if_pos c7] at h
    obtain ⟨y, n1, h1, h⟩ := aA h
    obtain ⟨a, n2, h2, h⟩ := aA h
    obtain ⟨p1, p2⟩ := ih.block _ _ _ _ h2
    by_cases c : (pk E n2).text = lC
    ·rw [if_pos c] at h
     obtain ⟨b, n3, h3, h⟩ := aA h
     cases h
     rw [eW]
     exact Or.inr (Or.inr (Or.inr (Or.inr (Or.inr (Or.inr (Or.inr (Or.inr (Or.inl ⟨rfl, rfl, rfl, dX hT h1, p1, p2, (ih.block _ _ _ _ h3).2, rfl⟩))))))))
    ·rw [if_neg c] at h
     cases h
     rw [eW]
     exact Or.inr (Or.inr (Or.inr (Or.inr (Or.inr (Or.inr (Or.inr (Or.inr (Or.inl ⟨rfl, rfl, rfl, dX hT h1, p1, p2, kU _, rfl⟩))))))))
   rw [if_neg c7] at h
   by_cases c8 : (pk E n).text = pE
   ·rw [if_pos c8] at h
    obtain ⟨y, n1, h1, h⟩ := aA h
    obtain ⟨a, n2, h2, h⟩ := aA h
    cases h
    obtain ⟨p1, p2⟩ := ih.block _ _ _ _ h2
    rw [eW]
    exact Or.inr (Or.inr (Or.inr (Or.inr (Or.inr (Or.inr (Or.inr (Or.inr (Or.inr (Or.inl ⟨rfl, rfl, rfl, dX hT h1, p1, p2, rfl, rfl⟩)))))))))
   rw [if_neg c8] at h
   by_cases c9 : (pk E n).text = dI
   ·rw [if_pos c9] at h
    obtain ⟨_, n1, h1, h⟩ := aA h
    obtain ⟨a, n2, h2, h⟩ := aA h
    obtain ⟨_, n3, h3, h⟩ := aA h
    cases h
    obtain ⟨q1, q2⟩ := ih.cases _ _ _ _ _ h2 (Nat.zero_le _) (AD _)
    rw [eW]
    exact Or.inr (Or.inr (Or.inr (Or.inr (Or.inr (Or.inr (Or.inr (Or.inr (Or.inr (Or.inr (⟨rfl, rfl, rfl, rfl, rfl, rfl, (nT h1).2, q1, q2⟩))))))))))
   rw [if_neg c9] at h
   exact AF hT h
  ·intro dep a n x m h ha hg
   rw [hY] at h
   by_cases c : (pk E n).text = tRb
   ·rw [if_pos c] at h
    cases h
    exact ⟨ha, hg⟩
   rw [if_neg c] at h
   by_cases c2 : 6 <= a.len
   ·rw [if_pos c2] at h; exact (aP h).elim
   rw [if_neg c2] at h
   obtain ⟨y, n1, h1, h⟩ := aA h
   exact ih.cases _ _ _ _ _ h (by rw [Cas.len_snocT]; omega) (pB _ _ _ hg (ih.oneCase _ _ _ _ h1))
  ·intro dep n x m h
   rw [dK] at h
   by_cases c : (pk E n).text = bE
   ·rw [if_pos c] at h
    obtain ⟨_, n1, h1, h⟩ := aA h
    obtain ⟨l, n2, h2, h⟩ := aA h
    cases h
    rw [rE]
    exact ⟨Or.inr (Or.inr (Or.inr ⟨rfl, rfl, rfl, rfl⟩)), ih.stmts _ _ _ _ _ _ h2 (kU _)⟩
   rw [if_neg c] at h
   obtain ⟨_, n1, h1, h⟩ := aA h
   obtain ⟨t, n2, h2, h⟩ := aA h
   obtain ⟨_, n3, h3, h⟩ := aA h
   obtain ⟨l, n4, h4, h⟩ := aA h
   cases h
   rw [rE]
   refine ⟨?_, ih.stmts _ _ _ _ _ _ h4 (kU _)⟩
   rcases EF hT h2 with q | q | q
   ·exact Or.inl q
   ·exact Or.inr (Or.inl q)
   ·exact Or.inr (Or.inr (Or.inl q))
theorem xX (t : B) : kindV t <= 3 := by
 unfold kindV
 repeat' split
 all_goals omega
theorem vA {E : Env} {q n m : Nat} {x : Tok} (h : aF E q n = .ok x m) : (pk E n).kind = q := by
 unfold aF Tr.fail at h
 split at h
 ·assumption
 ·cases h
theorem pC {E : Env} (hT : TokOk E) : ∀ (f : Nat) (acc : List Pa) (n : Nat) (x : List Pa) (m : Nat), params E f acc n = .ok x m -> (∀ p ∈ acc, B1 p) -> ∀ p ∈ x, B1 p
 | 0, _, _, _, _, h, _ => by rw [params] at h; cases h
 | f + 1, acc, n, x, m, h, ha => by
  rw [jC] at h
  obtain ⟨t, n1, h1, h⟩ := aA h
  have hk := vA h1
  obtain ⟨rfl, rfl⟩ := cA h1
  by_cases q : kindV (pk E (n + 1)).text = 0
  ·rw [if_pos q] at h; exact (aP h).elim
  rw [if_neg q] at h
  have hp : ∀ p ∈ acc ++ [⟨(pk E n).text, kindV (pk E (n + 1)).text, (pk E n).at_⟩], B1 p := fun p hp => by
   rcases List.mem_append.1 hp with h2 | h2
   ·exact ha p h2
   ·rw [List.mem_singleton.1 h2]
    exact ⟨hT.words n hk, by show 1 <= kindV _; omega, xX _⟩
  by_cases q2 : (pk E (n + 1 + 1)).text = cB
  ·rw [if_pos q2] at h
   exact pC hT f _ _ _ _ h hp
  ·rw [if_neg q2] at h
   obtain ⟨_, n2, h2, h⟩ := aA h
   cases h
   exact hp
theorem rX {E : Env} (hT : TokOk E) {f n m : Nat} {g : Fu} (h : Tr.function E f n = .ok g m) : GoodF g := by
 unfold Tr.function at h
 obtain ⟨_, n1, h1, h⟩ := aA h
 obtain ⟨t, n2, h2, h⟩ := aA h
 obtain ⟨_, n3, h3, h⟩ := aA h
 obtain ⟨ps, n4, h4, h⟩ := aA h
 obtain ⟨b, n5, h5, h⟩ := aA h
 cases h
 have hk := vA h2
 obtain ⟨_, rfl⟩ := cA h2
 refine ⟨hT.words n1 hk, ?_, xX _, ((L8 hT f).block _ _ _ _ h5).2⟩
 by_cases q : (pk E n3).text = tRp
 ·rw [if_pos q] at h4
  cases h4
  intro p hp
  cases hp
 ·rw [if_neg q] at h4
  exact pC hT f _ _ _ _ h4 (fun p hp => by cases hp)
theorem kV {E : Env} (hT : TokOk E) : ∀ (f : Nat) (src : Src) (n : Nat) (x : Src) (m : Nat), Tr.program E f src n = .ok x m -> GoodSrc src -> GoodSrc x
 | 0, _, _, _, _, h, _ => by rw [Tr.program] at h; cases h
 | f + 1, src, n, x, m, h, hs => by
  rw [fU] at h
  by_cases c0 : E.toks.length <= n
  ·rw [if_pos c0] at h
   cases h
   exact hs
  rw [if_neg c0] at h
  by_cases c1 : (pk E n).text = pD
  ·rw [if_pos c1] at h
   by_cases c2 : 8 <= src.globals.length
   ·rw [if_pos c2] at h; exact (aP h).elim
   rw [if_neg c2] at h
   obtain ⟨t, n1, h1, h⟩ := aA h
   obtain ⟨_, n2, h2, h⟩ := aA h
   have hk := vA h1
   obtain ⟨_, rfl⟩ := cA h1
   refine kV hT f _ _ _ _ h ⟨fun g hg => ?_, hs.fus, by simp; omega, hs.nf⟩
   rcases List.mem_append.1 hg with h3 | h3
   ·exact hs.gls g h3
   ·rw [List.mem_singleton.1 h3]; exact hT.words _ hk
  rw [if_neg c1] at h
  by_cases c2 : (pk E n).text = kW
  ·rw [if_pos c2] at h
   by_cases c3 : 12 <= src.funcs.length
   ·rw [if_pos c3] at h; exact (aP h).elim
   rw [if_neg c3] at h
   obtain ⟨g, n1, h1, h⟩ := aA h
   obtain ⟨_, n2, h2, h⟩ := aA h
   refine kV hT f _ _ _ _ h ⟨hs.gls, fun g' hg => ?_, hs.ng, by simp; omega⟩
   rcases List.mem_append.1 hg with h3 | h3
   ·exact hs.fus g' h3
   ·rw [List.mem_singleton.1 h3]; exact rX hT h1
  rw [if_neg c2] at h
  exact (aP h).elim
theorem G0 {l : B} (h0 : 0 < bS l) (hk : j9 (l.take (bD l)) = false) (hs : bD l <= 12) : WordT 1 (l.take (bD l)) := by
 have hle := pU l.length l (Nat.le_refl _)
 have e1 : bD (l.take (bD l)) = bD l := by
  have h1 := B8 l.length l [] 32 (Nat.le_refl _) AX
  have h2 := B9 (l.take (bD l)).length (l.take (bD l)) [] 32 (Nat.le_refl _) AX
  rw [<- h2, h1]
 have hlen : (l.take (bD l)).length = bD l := by rw [List.length_take]; omega
 have hal : bV l = bS l := by unfold bV; rw [if_neg (by omega)]
 have hw : bS l <= bD l := by rw [dU, hal, if_neg (by omega)]; omega
 have e2 : bS (l.take (bD l)) = bS l := by
  have h1 := vC l ((l.take (bD l)).drop (bS l)) h0
  have h2 : l.take (bS l) = (l.take (bD l)).take (bS l) := by rw [List.take_take, Nat.min_eq_left hw]
  rw [h2, List.take_append_drop] at h1
  exact h1
 exact ⟨by rw [e1, hlen], by rw [e2]; exact h0, by rw [hk]; rfl, fun _ => by rw [hlen]; exact hs⟩
theorem L9 {l : B} {may : Bool} {n : Nat} (hl : l ≠ []) (h : eF l may = .cut (.tok 1 n)) : WordT 1 (l.take n) := by
 cases l with
 | nil => exact absurd rfl hl
 | cons b r =>
  rw [eH] at h
  split at h
  ·cases h
  split at h
  ·cases h
  split at h
  ·split at h <;> cases h
  ·have h2 : pV (b :: r) = .tok 1 n := by injection h
   rw [sG] at h2
   by_cases q1 : b = 59
   ·rw [if_pos q1] at h2; cases h2
   rw [if_neg q1] at h2
   by_cases q2 : cI b = true
   ·rw [if_pos q2] at h2
    unfold gO at h2
    split at h2
    ·cases h2
    split at h2 <;> cases h2
   rw [if_neg q2] at h2
   by_cases q3 : 0 < bS (b :: r)
   ·rw [if_pos q3] at h2
    unfold gA at h2
    by_cases q4 : j9 ((b :: r).take (bD (b :: r))) = true
    ·rw [if_pos q4] at h2; cases h2
    rw [if_neg q4] at h2
    by_cases q5 : 12 < bD (b :: r)
    ·rw [if_pos q5] at h2; cases h2
    rw [if_neg q5] at h2
    have hn : bD (b :: r) = n := by injection h2
    rw [<- hn]
    exact G0 q3 (by simpa using q4) (by omega)
   ·rw [if_neg q3] at h2
    unfold gP at h2
    split at h2 <;> cases h2
theorem AG : ∀ (l : B) (a : Nat) (may : Bool) (ts : List Tok), lx l a may = (ts, none) -> ∀ t ∈ ts, t.kind = 1 -> WordT 1 t.text := by
 refine lV (fun _ _ _ ts => ∀ t ∈ ts, t.kind = 1 -> WordT 1 t.text) ?_ ?_ ?_
 ·intro a may t ht hk
  unfold tY at ht
  split at ht
  ·simp at ht; subst ht; cases hk
  ·cases ht
 ·intro l a may n ts _ _ _ _ _ ih
  exact ih
 ·intro l a may k n ts hl hs h1 h2 _ ih t ht hk
  rcases List.mem_cons.1 ht with rfl | ht
  ·have hk' : k = 1 := hk
   subst hk'
   exact L9 hl hs
  ·exact ih t ht hk
theorem K6 {l : B} {ts : List Tok} {e : Nat} (hts : lx l 0 false = (ts, none)) : TokOk ⟨ts, e⟩ := by
 have key : ∀ n, (pk ⟨ts, e⟩ n).kind ≠ 0 -> pk ⟨ts, e⟩ n ∈ ts := fun n hk => by
  have hlt := mJ (E := ⟨ts, e⟩) (n := n) hk
  have h1 : ts[n]? = some ts[n] := List.getElem?_eq_getElem hlt
  have h2 : pk ⟨ts, e⟩ n = ts[n] := by unfold pk; rw [h1]; rfl
  rw [h2]
  exact List.getElem_mem hlt
 exact ⟨fun n hk => AG _ _ _ _ hts _ (key n (by rw [hk]; decide)) hk, fun n hk => tK _ _ _ _ hts _ (key n (by rw [hk]; decide)) hk⟩
end Tr
end Go.Proofs.YtnpapppipccdbaaGreatDoor
namespace Go.Proofs.YtnpapppipccdbaaGreatDoor
open Go.RowKit Lx Tr
theorem cH (least : Nat) (x : Ex) : (aH x).length <= (exW least x (aH x)).length := by
 unfold exW
 split
 ·rw [aH]; exact Nat.zero_le _
 ·split
  ·simp only [List.length_append, List.length_cons, List.length_nil]; omega
  ·exact Nat.le_refl _
theorem nZ {k : Nat} {t : Lx.B} (h : WordT k t) : 1 <= t.length := by
 cases t with
 | nil => exact absurd rfl h.ne
 | cons b r => exact Nat.succ_le_succ (Nat.zero_le _)
theorem cK : szE .nil = 1 := rfl
theorem iX : jJ .nil = 0 := rfl
theorem cC : lwE .nil = 0 := rfl
theorem g7 : nY .nil = 0 := rfl
mutual
theorem gL : ∀ (x : Ex) (d : Nat), bJ x d -> lwE x <= 30 * (aH x).length /\ szE x <= 3 * (aH x).length
 | .nil, _, h => by rw [bJ] at h; exact h.elim
 | .mk code a n op nm l r zs, d, h => by
  rw [bJ] at h
  obtain ⟨_, h⟩ := h
  rw [lwE, szE]
  rcases h with ⟨rfl, hn, _, rfl, rfl, rfl, rfl⟩ | ⟨rfl, _, _, rfl, rfl, rfl, rfl⟩ | ⟨rfl, _, _, rfl, rfl, rfl, rfl⟩ | ⟨rfl, _, _, hw, rfl, rfl, rfl⟩ | ⟨rfl, _, rfl, rfl, hv, h1, h2⟩ | ⟨rfl, _, rfl, rfl, rfl, ho, h1⟩ | ⟨rfl, _, _, rfl, rfl, rfl, h1⟩ | ⟨rfl | rfl, _, _, rfl, rfl, rfl, h1⟩ | ⟨rfl, _, _, hw, rfl, rfl, h1⟩
  ·have hp : 1 <= (kM n).length := List.length_pos_iff.2 (K4 n hn).1.pos
   rw [show aH (.mk 1 a n op [] .nil .nil .nil) = kM n by rw [aH]; rfl, cC, g7, cK, iX, List.length_nil]
   omega
  ·have hp : 4 <= (aH (.mk 2 a n op [] .nil .nil .nil)).length := by
    rw [show aH (.mk 2 a n op [] .nil .nil .nil) = (if n = 0 then cW else eY) by rw [aH]; rfl]
    split <;> decide
   rw [cC, g7, cK, iX, List.length_nil]
   omega
  ·have hp : 3 <= (aH (.mk 3 a n op [] .nil .nil .nil)).length := by
    rw [show aH (.mk 3 a n op [] .nil .nil .nil) = iS by rw [aH]; rfl]
    decide
   rw [cC, g7, cK, iX, List.length_nil]
   omega
  ·have hp := nZ hw
   rw [show aH (.mk 4 a n op nm .nil .nil .nil) = nm by rw [aH]; rfl, cC, g7, cK, iX]
   omega
  ·have k1 := gL l _ h1
   have k2 := gL r _ h2
   have b1 := cH (bN op) l
   have b2 := cH (bN op + 1) r
   rw [show aH (.mk 5 a n op [] l r .nil) = exW (bN op) l (aH l) ++ ([32] ++ (sgV op ++ ([32] ++ exW (bN op + 1) r (aH r)))) by rw [aH]; rfl, g7, iX]
   simp only [List.length_append, List.length_cons, List.length_nil]
   omega
  ·have k1 := gL l _ h1
   have b1 := cH 6 l
   have hs : 1 <= (cQ op).length := by rcases ho with rfl | rfl | rfl <;> decide
   rw [show aH (.mk 6 a n op [] l .nil .nil) = cQ op ++ exW 6 l (aH l) by rw [aH]; rfl, cC, g7, cK, iX]
   simp only [List.length_append, List.length_nil]
   omega
  ·have k1 := gL l _ h1
   have b1 := cH 6 l
   have hs : aM.length = 2 := rfl
   rw [show aH (.mk 10 a n op [] l .nil .nil) = aM ++ exW 6 l (aH l) by rw [aH]; rfl, cC, g7, cK, iX]
   simp only [List.length_append, List.length_nil]
   omega
  ·have k1 := gL l _ h1
   have b1 := cH 1 l
   rw [show aH (.mk 8 a n op [] l .nil .nil) = dZ ++ ([40] ++ (exW 1 l (aH l) ++ [41])) by rw [aH]; rfl, cC, g7, cK, iX]
   simp only [List.length_append, List.length_cons, List.length_nil]
   omega
  ·have k1 := gL l _ h1
   have b1 := cH 1 l
   rw [show aH (.mk 9 a n op [] l .nil .nil) = iR ++ ([40] ++ (exW 1 l (aH l) ++ [41])) by rw [aH]; rfl, cC, g7, cK, iX]
   simp only [List.length_append, List.length_cons, List.length_nil]
   omega
  ·have k1 := rG zs true _ h1
   have hp := nZ hw
   rw [show aH (.mk 7 a n op nm .nil .nil zs) = nm ++ ([40] ++ (f7 true zs ++ [41])) by rw [aH]; rfl, cC, cK]
   simp only [List.length_append, List.length_cons, List.length_nil]
   simp only [if_true] at k1
   omega
theorem rG : ∀ (zs : Exs) (f : Bool) (d : Nat), dS zs d -> nY zs <= 30 * (f7 f zs).length + (if f then 2 else 0) /\ jJ zs <= 3 * (f7 f zs).length
 | .nil, f, _, _ => ⟨Nat.zero_le _, Nat.zero_le _⟩
 | .cons x xs, f, d, h => by
  rw [dS] at h
  have k1 := gL x d h.1
  have k2 := rG xs false d h.2
  have b1 := cH 1 x
  simp only [Bool.false_eq_true, if_false] at k2
  rw [f7, nY, jJ]
  cases f with
  | true => simp only [List.length_append, List.length_nil, if_true]; omega
  | false => simp only [List.length_append, List.length_cons, List.length_nil, Bool.false_eq_true, if_false]; omega
end
theorem n7 {x : Ex} {d : Nat} (h : eN x d) (k : Nat) : lwE x <= 30 * (exV k x).length /\ szE x <= 3 * (exV k x).length := by
 have h1 := gL x _ h
 have h2 : _ <= (exV k x).length := cH k x
 omega
theorem fE {x : Ex} {d : Nat} (h : bJ x d) (k : Nat) : lwE x <= 30 * (exV k x).length /\ szE x <= 3 * (exV k x).length := by
 have h1 := gL x _ h
 have h2 : _ <= (exV k x).length := cH k x
 omega
theorem fF : iD .nil = 0 := rfl
theorem fG : lP .nil = 0 := rfl
theorem fH (d : Nat) : kT d .nil = 0 := by rw [kT]
theorem fI (d : Nat) : oT d .nil = 0 := by rw [oT]
mutual
theorem G1 : ∀ (s : St) (dep d : Nat), eW s dep -> lwS d s <= 30 * (stV d s).length /\ szS s <= 3 * (stV d s).length
 | .mk code a nm x v t e cs, dep, d, h => by
  rw [eW] at h
  rw [lwS, szS]
  rcases h with ⟨hc, hw, rfl, hg, rfl, rfl, rfl⟩ | ⟨rfl, rfl, hx, hg, rfl, rfl, rfl⟩ | ⟨rfl, rfl, rfl, hg, rfl, rfl, rfl⟩ | ⟨hc, rfl, rfl, hg, rfl, rfl, rfl⟩ | ⟨rfl, rfl, rfl, hg, _, rfl, rfl, rfl⟩ | ⟨rfl, rfl, rfl, hg, rfl, rfl, rfl⟩ | ⟨hc, rfl, rfl, rfl, rfl, rfl, rfl⟩ | ⟨rfl, rfl, rfl, hg, _, rfl, rfl, rfl⟩ | ⟨rfl, rfl, rfl, hg, _, ht, he, rfl⟩ | ⟨rfl, rfl, rfl, hg, _, ht, rfl, rfl⟩ | ⟨rfl, rfl, rfl, rfl, rfl, rfl, _, _, hcs⟩
  ·have k := fE hg 1
   have e1 : (stV d (.mk code a nm .nil v .nil .nil .nil)).length = 2 * d + 1 + nm.length + (if code = 1 then 4 else 3) + (exV 1 v).length := by
    rcases hc with rfl | rfl
    ·rw [stV, if_pos rfl, aD]; simp only [mW, List.length_append, List.length_cons, List.length_nil, if_true]; omega
    ·rw [stV, if_neg (by decide), if_pos rfl, aD]; simp only [mX, List.length_append, List.length_cons, List.length_nil]; rw [if_neg (by decide)]; omega
   have e2 : 3 <= (if code = 1 then 4 else 3) := by split <;> decide
   rw [cC, cK, fH, fI, fF, fG]
   omega
  ·have k := fE hg 1
   have kx := n7 hx 6
   have e1 : (stV d (.mk 3 a [] x v .nil .nil .nil)).length = 2 * d + 5 + (exV 6 x).length + (exV 1 v).length := by
    rw [stV, if_neg (by decide), if_neg (by decide), if_pos rfl, aD]; unfold cY; simp only [List.length_append, List.length_cons, List.length_nil]; omega
   rw [fH, fI, fF, fG, List.length_nil]
   omega
  ·have k := fE hg 1
   have e1 : (stV d (.mk 4 a [] .nil v .nil .nil .nil)).length = 2 * d + 8 + (exV 1 v).length := by
    rw [stV, if_neg (by decide), if_neg (by decide), if_neg (by decide), if_pos rfl, aD]; simp only [fR, cRp, List.length_append, List.length_cons, List.length_nil]; omega
   rw [cC, cK, fH, fI, fF, fG, List.length_nil]
   omega
  ·have k := fE hg 1
   have e1 : (stV d (.mk code a [] .nil v .nil .nil .nil)).length = 2 * d + 7 + (exV 1 v).length := by
    rcases hc with rfl | rfl
    ·rw [stV, if_neg (by decide), if_neg (by decide), if_neg (by decide), if_neg (by decide), if_pos rfl, aD]; simp only [fS, List.length_append, List.length_cons, List.length_nil]; omega
    ·rw [stV, if_neg (by decide), if_neg (by decide), if_neg (by decide), if_neg (by decide), if_neg (by decide), if_pos rfl, aD]; simp only [fT, List.length_append, List.length_cons, List.length_nil]; omega
   rw [cC, cK, fH, fI, fF, fG, List.length_nil]
   omega
  ·have k := fE hg 1
   have e1 : (stV d (.mk 7 a [] .nil v .nil .nil .nil)).length = 2 * d + 4 + (exV 1 v).length := by
    rw [stV, if_neg (by decide), if_neg (by decide), if_neg (by decide), if_neg (by decide), if_neg (by decide), if_neg (by decide), if_pos rfl, aD]; simp only [cGo, List.length_append, List.length_cons, List.length_nil]; omega
   rw [cC, cK, fH, fI, fF, fG, List.length_nil]
   omega
  ·have e0 : stV d (.mk 8 a [] .nil v .nil .nil .nil) = iP d v := by
    rw [stV, if_neg (by decide), if_neg (by decide), if_neg (by decide), if_neg (by decide), if_neg (by decide), if_neg (by decide), if_neg (by decide), if_pos rfl]
   rw [e0, cC, cK, fH, fI, fF, fG, List.length_nil]
   rcases hg with rfl | hg
   ·have e1 : (iP d .nil).length = 2 * d + 7 := by
     unfold iP; rw [aD]; simp only [fC, List.length_cons, List.length_nil]
    rw [cC, cK]
    omega
   ·have k := fE hg 1
    have e1 : 2 * d + 7 + (exV 1 v).length <= (iP d v).length := by
     unfold iP
     split
     ·rw [aD]; have e2 : (exV 1 .nil).length = 0 := rfl; rw [e2]; simp only [fC, List.length_cons, List.length_nil]; omega
     ·rw [aD]; simp only [d9, List.length_append, List.length_cons, List.length_nil]; omega
    omega
  ·have e1 : 2 * d + 6 <= (stV d (.mk code a [] .nil .nil .nil .nil .nil)).length := by
    rcases hc with rfl | rfl
    ·rw [stV, if_neg (by decide), if_neg (by decide), if_neg (by decide), if_neg (by decide), if_neg (by decide), if_neg (by decide), if_neg (by decide), if_neg (by decide), if_pos rfl, aD]; simp only [jR, List.length_cons, List.length_nil]; omega
    ·rw [stV, if_neg (by decide), if_neg (by decide), if_neg (by decide), if_neg (by decide), if_neg (by decide), if_neg (by decide), if_neg (by decide), if_neg (by decide), if_neg (by decide), if_pos rfl, aD]; simp only [dW, List.length_cons, List.length_nil]; omega
   rw [cC, cK, fH, fI, fF, fG, List.length_nil]
   omega
  ·have k := fE hg 1
   have k2 : 1 <= (exV 1 v).length := by have := (gL v _ hg).2; have h9 := nJ v; have h8 : _ <= (exV 1 v).length := cH 1 v; omega
   have e1 : (stV d (.mk 11 a [] .nil v .nil .nil .nil)).length = 2 * d + 1 + (exV 1 v).length := by
    rw [stV, if_neg (by decide), if_neg (by decide), if_neg (by decide), if_neg (by decide), if_neg (by decide), if_neg (by decide), if_neg (by decide), if_neg (by decide), if_neg (by decide), if_neg (by decide), if_pos rfl, aD]; omega
   have k3 : 2 <= (exV 1 v).length := by
    cases v with
    | nil => rw [bJ] at hg; exact hg.elim
    | mk c' a' n' o' nm' l' r' z' =>
     rename_i hcd
     have h8 : _ <= (exV 1 (Ex.mk c' a' n' o' nm' l' r' z')).length := cH 1 _
     have hc' : c' = 7 \/ c' = 10 := hcd
     refine Nat.le_trans ?_ h8
     rcases hc' with rfl | rfl
     ·rw [show aH (.mk 7 a' n' o' nm' l' r' z') = nm' ++ ([40] ++ (f7 true z' ++ [41])) by rw [aH]; rfl]
      simp only [List.length_append, List.length_cons, List.length_nil]; omega
     ·rw [show aH (.mk 10 a' n' o' nm' l' r' z') = aM ++ exW 6 l' (aH l') by rw [aH]; rfl]
      have hs : aM.length = 2 := rfl
      simp only [List.length_append]; omega
   have k4 : lwE v + 21 <= 30 * (exV 1 v).length := by
    cases v with
    | nil => rw [bJ] at hg; exact hg.elim
    | mk c' a' n' o' nm' l' r' z' =>
     rename_i hcd
     have hc' : c' = 7 \/ c' = 10 := hcd
     have h8 : _ <= (exV 1 (Ex.mk c' a' n' o' nm' l' r' z')).length := cH 1 _
     rw [bJ] at hg
     obtain ⟨_, hg⟩ := hg
     rcases hc' with rfl | rfl
     ·rcases hg with ⟨q, _⟩ | ⟨q, _⟩ | ⟨q, _⟩ | ⟨q, _⟩ | ⟨q, _⟩ | ⟨q, _⟩ | ⟨q, _⟩ | ⟨q, _⟩ | ⟨_, _, _, hw, rfl, rfl, h1⟩
      ·omega
      ·omega
      ·omega
      ·omega
      ·omega
      ·omega
      ·omega
      ·omega
      ·have k1 := rG z' true _ h1
       have hp := nZ hw
       rw [show aH (.mk 7 a' n' o' nm' .nil .nil z') = nm' ++ ([40] ++ (f7 true z' ++ [41])) by rw [aH]; rfl] at h8
       rw [lwE, cC]
       simp only [List.length_append, List.length_cons, List.length_nil] at h8
       simp only [if_true] at k1
       omega
     ·rcases hg with ⟨q, _⟩ | ⟨q, _⟩ | ⟨q, _⟩ | ⟨q, _⟩ | ⟨q, _⟩ | ⟨q, _⟩ | ⟨_, _, _, rfl, rfl, rfl, h1⟩ | ⟨q, _⟩ | ⟨q, _⟩
      ·omega
      ·omega
      ·omega
      ·omega
      ·omega
      ·omega
      ·have k1 := gL l' _ h1
       have b1 := cH 6 l'
       have hs : aM.length = 2 := rfl
       rw [show aH (.mk 10 a' n' o' [] l' .nil .nil) = aM ++ exW 6 l' (aH l') by rw [aH]; rfl] at h8
       rw [lwE, cC, g7, List.length_nil]
       simp only [List.length_append] at h8
       omega
      ·omega
      ·omega
   rw [cC, cK, fH, fI, fF, fG, List.length_nil]
   omega
  ·have k := fE hg 1
   have kt := gW t _ (d + 1) ht
   have ke := gW e _ (d + 1) he
   have e2 : (bG (d + 1) e).length <= (if e.len = 0 then [] else aC d iO ++ bG (d + 1) e).length := by
    split
    ·rename_i h0
     cases e with
     | nil => rw [bG]; exact Nat.zero_le _
     | cons s ss => cases h0
    ·rw [List.length_append]; omega
   have e1 : 4 * d + 8 + (exV 1 v).length + (bG (d + 1) t).length + (bG (d + 1) e).length <= (stV d (.mk 12 a [] .nil v t e .nil)).length := by
    rw [stV, if_neg (by decide), if_neg (by decide), if_neg (by decide), if_neg (by decide), if_neg (by decide), if_neg (by decide), if_neg (by decide), if_neg (by decide), if_neg (by decide), if_neg (by decide), if_neg (by decide), if_pos rfl]
    rw [List.length_append, List.length_append, List.length_append, aD, aD]; simp only [cIf, cV, cF, List.length_append, List.length_cons, List.length_nil]; omega
   rw [cC, cK, fI, fG, List.length_nil]
   omega
  ·have k := fE hg 1
   have kt := gW t _ (d + 1) ht
   have e1 : 4 * d + 8 + (exV 1 v).length + (bG (d + 1) t).length <= (stV d (.mk 13 a [] .nil v t .nil .nil)).length := by
    rw [stV, if_neg (by decide), if_neg (by decide), if_neg (by decide), if_neg (by decide), if_neg (by decide), if_neg (by decide), if_neg (by decide), if_neg (by decide), if_neg (by decide), if_neg (by decide), if_neg (by decide), if_neg (by decide), if_pos rfl]
    rw [List.length_append, List.length_append, aD, aD]; simp only [rT, cV, cF, List.length_append, List.length_cons, List.length_nil]; omega
   rw [cC, cK, fH, fI, fF, fG, List.length_nil]
   omega
  ·have kc := tU cs _ d hcs
   have e1 : 4 * d + 8 + (jS d cs).length <= (stV d (.mk 14 a [] .nil .nil .nil .nil cs)).length := by
    rw [stV, if_neg (by decide), if_neg (by decide), if_neg (by decide), if_neg (by decide), if_neg (by decide), if_neg (by decide), if_neg (by decide), if_neg (by decide), if_neg (by decide), if_neg (by decide), if_neg (by decide), if_neg (by decide), if_neg (by decide), if_pos rfl]
    rw [List.length_append, List.length_append, aD, aD]; simp only [cG, cF, List.length_cons, List.length_nil]; omega
   rw [cC, cK, fH, fF, List.length_nil]
   omega
theorem gW : ∀ (ss : Sts) (dep d : Nat), dT ss dep -> kT d ss <= 30 * (bG d ss).length /\ iD ss <= 3 * (bG d ss).length
 | .nil, _, _, _ => ⟨by rw [kT]; exact Nat.zero_le _, Nat.zero_le _⟩
 | .cons s ss, dep, d, h => by
  rw [dT] at h
  have k1 := G1 s dep d h.1
  have k2 := gW ss dep d h.2
  rw [bG, kT, iD, List.length_append]
  omega
theorem G3 : ∀ (s : Ca) (dep d : Nat), rE s dep -> lwC d s <= 30 * (caV d s).length /\ szC s <= 3 * (caV d s).length
 | .mk c a nm x v b, dep, d, h => by
  rw [rE] at h
  obtain ⟨h, hb⟩ := h
  have kb := gW b dep (d + 1) hb
  have e1 : (caV d (.mk c a nm x v b)).length = 2 * d + 2 + (dG c nm x v).length + (bG (d + 1) b).length := by
   rw [caV, List.length_append, aD]; simp only [kQ, List.length_append, List.length_cons, List.length_nil]; omega
  rw [lwC, szC, e1]
  rcases h with ⟨rfl, rfl, hx, hg⟩ | ⟨rfl, rfl, hx, rfl⟩ | ⟨rfl, hw, hx, rfl⟩ | ⟨rfl, rfl, rfl, rfl⟩
  ·have k := fE hg 1
   have kx := n7 hx 6
   have e2 : (dG 3 [] x v).length = 9 + (exV 6 x).length + (exV 1 v).length := by
    unfold dG cY; rw [if_pos rfl]; simp only [jE, List.length_append, List.length_cons, List.length_nil]; omega
   rw [List.length_nil]
   omega
  ·have kx := n7 hx 6
   have e2 : (dG 10 [] x .nil).length = 7 + (exV 6 x).length := by
    unfold dG; rw [if_neg (by decide), if_pos rfl, if_pos rfl]; simp only [fY, List.length_append, List.length_cons, List.length_nil]
   rw [List.length_nil, cC, cK]
   omega
  ·have kx := n7 hx 6
   have hp := nZ hw
   have e2 : (dG 10 nm x .nil).length = 11 + nm.length + (exV 6 x).length := by
    unfold dG; rw [if_neg (by decide), if_pos rfl, if_neg (fun e => by rw [e] at hp; exact absurd hp (by decide))]; simp only [jE, iH, List.length_append, List.length_cons, List.length_nil]; omega
   rw [cC, cK]
   omega
  ·have e2 : (dG 40 [] .nil .nil).length = 7 := by
    unfold dG; rw [if_neg (by decide), if_neg (by decide)]; rfl
   rw [List.length_nil, cC, cK]
   omega
theorem tU : ∀ (ss : Cas) (dep d : Nat), gK ss dep -> oT d ss <= 30 * (jS d ss).length /\ lP ss <= 3 * (jS d ss).length
 | .nil, _, _, _ => ⟨by rw [oT]; exact Nat.zero_le _, Nat.zero_le _⟩
 | .cons s ss, dep, d, h => by
  rw [gK] at h
  have k1 := G3 s dep d h.1
  have k2 := tU ss dep d h.2
  rw [jS, oT, lP, List.length_append]
  omega
end
theorem xY {α : Type} (f : α -> Lx.B) : ∀ (l : List α) (x : α), x ∈ l -> (f x).length <= (l.flatMap f).length
 | [], _, h => by cases h
 | y :: ys, x, h => by
  rw [List.flatMap_cons, List.length_append]
  rcases List.mem_cons.1 h with rfl | h
  ·omega
  ·have := xY f ys x h; omega
theorem B2 {α : Type} (f g : α -> Lx.B) : ∀ l : List α, (∀ x ∈ l, (g x).length <= 30 * (f x).length) -> (l.flatMap g).length <= 30 * (l.flatMap f).length
 | [], _ => Nat.zero_le _
 | y :: ys, h => by
  rw [List.flatMap_cons, List.flatMap_cons, List.length_append, List.length_append]
  have h1 := h y (List.mem_cons_self ..)
  have h2 := B2 f g ys fun x hx => h x (List.mem_cons_of_mem _ hx)
  omega
theorem xZ : ∀ (l : List Pa) (f : Bool), l.length <= (fD f l).length
 | [], _ => Nat.zero_le _
 | x :: xs, f => by
  have h := xZ xs false
  show xs.length + 1 <= ((if f then [] else [44, 32]) ++ (paV x ++ fD false xs)).length
  have h2 : 1 <= (paV x).length := by unfold paV; simp only [List.length_append, List.length_cons]; omega
  simp only [List.length_append]
  omega
theorem K7 {g : Fu} (hok : eV g.body) (hg : GoodF g) : (fuV (eG g)).length <= 30 * (fuV g).length := by
 have h1 : (bG 1 (aE g.body)).length <= _ := rD (aE g.body) 1 (f4 _ hok)
 have h2 := j4 g.body 1
 have h3 := (gW g.body 1 1 hg.body).1
 have e1 : ∀ g : Fu, (fuV g).length = ((gN ++ (g.name ++ [40])).length + (fD true g.params).length + 2 + (if g.kind = 0 then [] else iE g.kind ++ [32]).length + 2 + (aC 0 cF).length) + (bG 1 g.body).length := fun g => by
  unfold fuV
  simp only [List.length_append, List.length_cons, List.length_nil]
  omega
 rw [e1, e1 g]
 show (((gN ++ (g.name ++ [40])).length + (fD true g.params).length + 2 + (if g.kind = 0 then [] else iE g.kind ++ [32]).length + 2 + (aC 0 cF).length) + (bG 1 (aE g.body)).length) <= _
 omega
theorem G4 {s : Src} (hok : nS s) (hg : GoodSrc s) : (eX (cL s)).length <= 30 * (eX s).length := by
 unfold eX cL
 simp only [List.length_append, List.flatMap_map]
 have h := B2 fuV (fun g => fuV (eG g)) s.funcs fun g h => K7 (hok g h) (hg.fus g h)
 omega
theorem JS {s : Src} (hok : nS s) (hg : GoodSrc s) (hl : (eX s).length <= 193628) : FoldOk s := by
 refine ⟨by have := hg.ng; omega, by have := hg.nf; omega, fun g h => ?_⟩
 have h1 := xY fuV s.funcs g h
 have h2 := (gW g.body 1 1 (hg.fus g h).body).2
 have h3 := xZ g.params true
 unfold eX at hl
 rw [List.length_append] at hl
 have h4 : (fD true g.params).length + (bG 1 g.body).length <= (fuV g).length := by
  unfold fuV
  simp only [List.length_append]
  omega
 exact ⟨by omega, hok g h, by omega⟩
theorem MA (x : Ex) : szE x.l <= szE x := by
 cases x with
 | nil => exact Nat.le_refl _
 | mk c a n op nm l r zs => rw [szE]; show szE l <= _; omega
theorem MB (x : Ex) : szE x.r <= szE x := by
 cases x with
 | nil => exact Nat.le_refl _
 | mk c a n op nm l r zs => rw [szE]; show szE r <= _; omega
theorem AH {x : Ex} (h : x.code ≠ 0) : 3 <= szE x := by
 cases x with
 | nil => exact absurd rfl h
 | mk c a n op nm l r zs => rw [szE]; have := nJ l; have := nJ r; omega
theorem B3 (b : Bool) (a : Nat) : szE (k9 b a) = 3 := by unfold k9; rw [szE, szE, jJ]
theorem JT (n : Int) (a : Nat) : szE (lF n a) <= 5 := by
 unfold lF
 split
 ·simp only [szE, jJ]; omega
 ·simp only [szE, jJ]; omega
theorem K8 (x : Ex) : szE (jQ x) <= szE x := by
 have hN : ∀ n, 5 <= szE x -> szE (eT x n) <= szE x := fun n h => by
  unfold eT
  split
  ·exact Nat.le_refl _
  ·exact Nat.le_trans (JT _ _) h
 have hl := MA x
 have hr := MB x
 have two : x.code ≠ 0 -> x.l.code ≠ 0 -> 5 <= szE x := fun h1 h2 => by
  cases x with
  | nil => exact absurd rfl h1
  | mk c a n op nm l r zs => rw [szE]; have := AH (x := l) h2; have := nJ r; omega
 unfold jQ
 split
 ·rename_i h5
  have h1 : 3 <= szE x := AH (by omega)
  unfold p6 dM lG kX
  split
  ·split
   ·split
    ·exact hr
    ·exact hl
   ·split
    ·split
     ·exact hl
     ·exact Nat.le_refl _
    ·exact Nat.le_refl _
  ·split
   ·split
    ·split
     ·exact hr
     ·exact hl
    ·split
     ·split
      ·exact hl
      ·exact Nat.le_refl _
     ·exact Nat.le_refl _
   ·split
    ·split
     ·rename_i a b hka hkb
      split
      ·split
       ·rw [B3]; exact h1
       ·exact hN _ (two (by omega) (kC (by rw [hka]; simp)))
      ·exact Nat.le_refl _
     ·split
      ·exact hl
      ·exact Nat.le_refl _
     ·split
      ·exact hr
      ·exact Nat.le_refl _
     ·exact Nat.le_refl _
    ·exact Nat.le_refl _
 ·split
  ·rename_i h6
   have h1 : 3 <= szE x := AH (by omega)
   unfold oB
   split
   ·exact Nat.le_refl _
   ·split
    ·rw [B3]; exact h1
    ·split
     ·rename_i n hk
      exact hN _ (two (by omega) (kC (by rw [hk]; simp)))
     ·exact Nat.le_refl _
  ·exact Nat.le_refl _
mutual
theorem jI : ∀ x : Ex, szE (aK x) <= szE x
 | .nil => Nat.le_refl _
 | .mk c a n op nm l r zs => by
  have hl := jI l
  have hr := jI r
  have hz := tV zs
  rw [aK]
  refine Nat.le_trans (K8 _) ?_
  rw [szE, szE]
  omega
theorem tV : ∀ xs : Exs, jJ (aU xs) <= jJ xs
 | .nil => Nat.le_refl _
 | .cons x xs => by
  have := jI x
  have := tV xs
  rw [aU, jJ, jJ]
  omega
end
theorem K9 : ∀ s y : St, p7 s = some y -> szS y <= szS s
 | .mk c a nm x v t e cs, y, h => by
  have h0 : iD .nil = 0 := rfl
  rw [fK] at h
  split at h
  ·obtain rfl := Option.some.inj h; exact Nat.le_refl _
  ·split at h
   ·split at h
    ·obtain rfl := Option.some.inj h; exact Nat.le_refl _
    ·cases h
   ·split at h
    ·split at h
     ·obtain rfl := Option.some.inj h
      rw [szS, szS, h0]; omega
     ·cases h
    ·split at h
     ·split at h
      ·obtain rfl := Option.some.inj h
       rw [szS, szS, h0]; omega
      ·cases h
     ·obtain rfl := Option.some.inj h; exact Nat.le_refl _
mutual
theorem G5 : ∀ (s y : St), cO s = some y -> szS y <= szS s
 | .mk c a nm x v t e cs, y, h => by
  rw [cO] at h
  refine Nat.le_trans (K9 _ _ h) ?_
  have h1 := jI x
  have h2 := jI v
  have h3 := j8 t
  have h4 := j8 e
  have h5 := tW cs
  rw [szS, szS]
  omega
theorem j8 : ∀ (ss : Sts), iD (aE ss) <= iD ss
 | .nil => by rw [aE]; exact Nat.le_refl _
 | .cons s ss => by
  have hs := G5 s
  have hss := j8 ss
  rw [aE]
  split
  ·rename_i y hy
   have := hs y hy
   rw [iD, iD]; omega
  ·rw [iD]; omega
theorem G6 : ∀ (c : Ca), szC (eU c) <= szC c
 | .mk c a nm x v b => by
  have h1 := jI x
  have h2 := jI v
  have h3 := j8 b
  rw [eU, szC, szC]; omega
theorem tW : ∀ (cs : Cas), lP (aT cs) <= lP cs
 | .nil => by rw [aT]; exact Nat.le_refl _
 | .cons c cs => by
  have h1 := G6 c
  have h2 := tW cs
  rw [aT, lP, lP]; omega
end
theorem G7 {s : Src} (h : FoldOk s) : FoldOk (cL s) := by
 refine ⟨h.gl, by show (s.funcs.map eG).length <= _; rw [List.length_map]; exact h.fl, fun g hg => ?_⟩
 obtain ⟨f, hf, rfl⟩ := List.mem_map.1 hg
 obtain ⟨h1, h2, h3⟩ := h.fs f hf
 exact ⟨h1, f4 _ h2, Nat.le_trans (j8 _) h3⟩
theorem EG {l : Lx.B} {ts : List Tok} {e m : Nat} {s : Src} (hs : l.length <= 1500) (hts : lx l 0 false = (ts, none)) (h : Ev (fun f => Tr.program ⟨ts, e⟩ f ⟨[], []⟩ 0) (.ok s m)) : nS s /\ FoldOk s /\ (eX s).length <= 193628 /\ (eX (cL s)).length <= 5808840 := by
 obtain ⟨h1, h2⟩ := xQ hts h
 obtain ⟨_, f0, h⟩ := h
 have hg : GoodSrc s := kV (K6 hts) f0 ⟨[], []⟩ 0 s m (h f0 (Nat.le_refl _)) ⟨fun g hg => (by cases hg), fun g hg => (by cases hg), Nat.zero_le _, Nat.zero_le _⟩
 have h3 := G4 h1 hg
 exact ⟨h1, JS h1 hg (by omega), by omega, by omega⟩
end Go.Proofs.YtnpapppipccdbaaGreatDoor
namespace Go.Proofs.YtnpapppipccdbaaGreatDoor
open Go.RowKit Lx Tr
variable {w w' : World}
theorem AJ {src : Src} (hok : FoldOk src) {F : Nat -> Prop} {ga fa : Option Addr} {gc fc : Nat} (w : World) (hF : ∀ b, F b -> b < w.heap.size) (hg : fA w F (.slice ga src.globals.length gc) src.globals) (hf : eL w F (.slice fa src.funcs.length fc) (src.funcs.map eG)) :
  Calls Tryz.prog 30 #[.agg #[.slice ga src.globals.length gc, .slice fa src.funcs.length fc]] w fun e w' => ∃ ga' gc' fa' fc', e = .returned (.agg #[.slice ga' src.globals.length gc', .slice fa' src.funcs.length fc']) /\ fA w' (fun b => w.heap.size <= b) (.slice ga' src.globals.length gc') src.globals /\ eL w' (fun b => w.heap.size <= b) (.slice fa' src.funcs.length fc') (src.funcs.map eG) /\ Below w.heap.size w w' := by
 have hl : (cL src).funcs.length = src.funcs.length := List.length_map ..
 have hi : (cL src).funcs.map eG = src.funcs.map eG := congrArg Src.funcs (uG src)
 have h := rB (src := cL src) (G7 hok) (ga := ga) (fa := fa) (gc := gc) (fc := fc) w hF hg (by rw [hl]; exact hf)
 rw [hl, hi] at h
 exact h
theorem JU {src : Src} {B : Nat} {ga fa : Option Addr} {gc fc gn fn : Nat} (hg : fA w (fun b => B <= b) (.slice ga gn gc) src.globals) (hf : eL w (fun b => B <= b) (.slice fa fn fc) src.funcs) (hb : Below w.heap.size w w') : zG w' (fun b => b < w'.heap.size) src (.slice ga gn gc) (.slice fa fn fc) := by
 have hk : Keeps (fun k => w.heap.size <= k) w w' := Keeps.of_below (S := fun k => w.heap.size <= k) hb (fun _ _ e => e)
 have h1 : fA w (fun b => b < w.heap.size) (.slice ga gn gc) src.globals := gV (fun _ e _ => e) hg
 have h2 : eL w (fun b => b < w.heap.size) (.slice fa fn fc) src.funcs := dR (fun _ e _ => e) hf
 have hz := hb.size
 exact ⟨gV (fun _ e _ => e) (jN h1 hk (fun b e e2 => Nat.lt_irrefl _ (Nat.lt_of_lt_of_le e e2))), dR (fun _ e _ => e) (fZ h2 hk (fun b e e2 => Nat.lt_irrefl _ (Nat.lt_of_lt_of_le e e2)))⟩
theorem JV {src : Src} {B : Nat} {ga fa : Option Addr} {gc fc gn fn : Nat} (hg : fA w (fun b => B <= b) (.slice ga gn gc) src.globals) (hf : eL w (fun b => B <= b) (.slice fa fn fc) (src.funcs.map eG)) : zG w (fun b => b < w.heap.size) (cL src) (.slice ga gn gc) (.slice fa fn fc) :=
 ⟨gV (fun _ e _ => e) hg, dR (fun _ e _ => e) hf⟩
theorem rY (q : ByteArray) (w : World) (hE : LawEnv w) : Calls Tryz.prog 8 #[.string q] w fun e w' => e = .returned (.bool true) /\ Below w.heap.size w w' := by
 have HG := zz (AB w hE)
 have HE := zz hE
 clear hE
 go_enter Tryz.func8, Tryz.ntmps8
 go_wp2_with fail
 refine HG.out.mono ?_
 rintro e w1 ⟨rfl, hb1⟩
 have HE1 := zz (HE.out.below hb1)
 have HB1 := zz hb1
 clear hb1
 go_wp2_with fail
 refine (GR q w1 HE1.out).mono ?_
 rintro e w2 ⟨hra, hb2⟩
 have HB2 := zz (HB1.out.trans (hb2.mono HB1.out.size))
 have HE2 := zz (HE1.out.below hb2)
 clear hb2
 rcases hra with ⟨ts, src, m, gxv, fxv, hsa, hts, hev, rfl, hox⟩ | rfl
 ·obtain ⟨ga, gc, rfl⟩ := kS hox.choose_spec.1
  obtain ⟨fa, fc, rfl⟩ := kS hox.choose_spec.2.1
  have hbx := aG w2 #[.slice ga src.globals.length gc, .slice fa src.funcs.length fc] 26
  obtain ⟨hok, hfo, _, hlen⟩ := EG (by rw [Array.length_toList]; exact hsa) hts hev
  have hox2 : zG (w2.alloc (.cells #[.slice ga src.globals.length gc, .slice fa src.funcs.length fc] 26)) (fun b => b < (w2.alloc (.cells #[.slice ga src.globals.length gc, .slice fa src.funcs.length fc] 26)).heap.size) src (.slice ga src.globals.length gc) (.slice fa src.funcs.length fc) := (hox.keeps (S := fun _ => False) ((Keeps.refl _ _).alloc _) (fun _ _ e => e)).toG (fun b h1 _ => h1)
  have HF := zz (rB hfo (w2.alloc (.cells #[.slice ga src.globals.length gc, .slice fa src.funcs.length fc] 26)) (fun _ h => h) hox2.1 hox2.2)
  have HFO := zz hfo
  have HOK := zz (z8 hok)
  have HLEN := zz hlen
  have HBX := zz (HB2.out.trans (hbx.mono HB2.out.size))
  have HEX := zz (HE2.out.below hbx)
  clear hsa hts hev hox hbx hok hlen hox2 hfo
  go_wp2_with fail
  refine HF.out.mono ?_
  rintro e w3 ⟨ya, yc, za, zc, rfl, hgl, hfu, hb3⟩
  obtain ⟨w4, hw4⟩ : ∃ W, W = w3.alloc (.cells #[.slice ya src.globals.length yc, .slice za src.funcs.length zc] 26) := ⟨_, rfl⟩
  have HW4 := zz hw4
  have hb34 : Below w3.heap.size w3 w4 := by rw [hw4]; exact aG w3 #[.slice ya src.globals.length yc, .slice za src.funcs.length zc] 26
  have hbx4 := hb3.trans (hb34.mono hb3.size)
  have HB4' : Hid (Below w.heap.size w w4) := zz (HBX.out.trans (hbx4.mono HBX.out.size))
  have HE4 := zz (HEX.out.below hbx4)
  have hyr := JU (src := cL src) (ga := ya) (gc := yc) (fa := za) (fc := zc) hgl hfu hb34
  have HY4 : Hid (∀ W, Below w4.heap.size w4 W -> zG W (fun b => b < W.heap.size) (cL src) (.slice ya src.globals.length yc) (.slice za src.funcs.length zc)) := zz fun W hb => ⟨gV (fun _ e _ => e) (jN hyr.1 (Keeps.of_below (S := fun k => w4.heap.size <= k) hb (fun _ _ e => e)) (fun b e e2 => Nat.lt_irrefl _ (Nat.lt_of_lt_of_le e e2))), dR (fun _ e _ => e) (fZ hyr.2 (Keeps.of_below (S := fun k => w4.heap.size <= k) hb (fun _ _ e => e)) (fun b e e2 => Nat.lt_irrefl _ (Nat.lt_of_lt_of_le e e2)))⟩
  have HBD : Hid (Below w4.heap.size w4 w4.drew) := zz (Below.drew (Below.refl _ w4))
  have HB4 : Hid (Below w.heap.size w w4.drew) := zz (HB4'.out.trans (HBD.out.mono HB4'.out.size))
  have HF2 := zz (AJ HFO.out w4.drew (F := fun b => b < w4.drew.heap.size) (fun _ h => h) (HY4.out _ HBD.out).1 (HY4.out _ HBD.out).2)
  have hz4 : w3.heap.size < w4.heap.size := by rw [hw4]; simp
  have hc0 : w4.cell? ⟨w3.heap.size, 0, none⟩ = some (.slice ya src.globals.length yc) := by rw [hw4, Lib.cell_of_heap (heap_alloc_new w3 _)]; rfl
  have hc1 : w4.cell? ⟨w3.heap.size, 1, none⟩ = some (.slice za src.funcs.length zc) := by rw [hw4, Lib.cell_of_heap (heap_alloc_new w3 _)]; rfl
  have HC4 : Hid (∀ W, Below w4.heap.size w4 W -> W.cell? ⟨w3.heap.size, 0, none⟩ = some (.slice ya src.globals.length yc) /\ W.cell? ⟨w3.heap.size, 1, none⟩ = some (.slice za src.funcs.length zc)) := zz fun W hb => ⟨by rw [hb.cell (p := ⟨w3.heap.size, 0, none⟩) hz4]; exact hc0, by rw [hb.cell (p := ⟨w3.heap.size, 1, none⟩) hz4]; exact hc1⟩
  obtain ⟨T, hT⟩ : ∃ T, T = mkT (eX (cL src)) := ⟨_, rfl⟩
  have HT := zz hT
  have hq : (T.toList == T.toList) = true := beq_self_eq_true _
  clear hgl hfu hb3 hb34 hbx4 hyr hz4 hw4 hT
  go_upto_region 7 with fail
  rw [<- HW4.out]
  refine wp_region_held_drew (S := (fun W' : World => W'.cell? ⟨w3.heap.size, 0, none⟩ = some (.slice ya src.globals.length yc) /\ W'.cell? ⟨w3.heap.size, 1, none⟩ = some (.slice za src.funcs.length zc))) (by kernel_rfl) ⟨by simp only [World.cell?_drew]; assumption, by simp only [World.cell?_drew]; assumption⟩ (fun hHeld => ?_)
  refine tk 0 17 (.agg #[.slice ya src.globals.length yc, .slice za src.funcs.length zc]) rfl (.inl ⟨by rfl, ?_⟩) hHeld ?_
  ·intro W9 hSW; (try dsimp only at hSW); go_simp
  try simp only [Act.put, sA, sB, sC]
  refine tk 3 20 (.agg #[.slice ya src.globals.length yc, .slice za src.funcs.length zc]) rfl (.inl ⟨by rfl, ?_⟩) hHeld ?_
  ·intro W9 hSW; (try dsimp only at hSW); go_simp
  try simp only [Act.put, sA, sB, sC]
  refine ra 1 (some 18) rfl fun K hK => ?_
  go_simp
  go_at_call 30
  refine HF2.out.mono ?_
  rintro e w5 ⟨ua, uc, va, vc, rfl, hgl5, hfu5, hb5⟩
  have HB5 := zz (HB4.out.trans (hb5.mono HB4.out.size))
  have hb45 := HBD.out.trans (hb5.mono HBD.out.size)
  have d5 := HC4.out w5 hb45
  have HP5 := zz (tF (src := cL src) w5 (JV hgl5 hfu5) (HE4.out.below hb45).penv HOK.out (by have := HLEN.out; omega))
  unfold fB at HP5
  rw [<- HT.out] at HP5
  have HB45 := zz hb45
  clear hgl5 hfu5 hb5 hb45
  refine hK.out _ _ d5 (fun hHeld => ?_)
  clear hK K d5
  refine ra 2 (some 19) rfl fun K hK => ?_
  go_simp
  go_at_call 33
  refine HP5.out.mono ?_
  rintro e w6 ⟨rfl, hb6⟩
  have HB6 := zz (HB5.out.trans (hb6.mono HB5.out.size))
  have hb46 := HB45.out.trans (hb6.mono HB45.out.size)
  have d6 := HC4.out w6 hb46
  have HP6 := zz (tF (src := cL src) w6 (HY4.out w6 hb46) (HE4.out.below hb46).penv HOK.out (by have := HLEN.out; omega))
  unfold fB at HP6
  rw [<- HT.out] at HP6
  have HB46 := zz hb46
  clear hb6 hb46
  refine hK.out _ _ d6 (fun hHeld => ?_)
  clear hK K d6
  refine ra 4 (some 21) rfl fun K hK => ?_
  go_simp
  go_at_call 33
  refine HP6.out.mono ?_
  rintro e w7 ⟨rfl, hb7⟩
  have HB7 := zz (HB6.out.trans (hb7.mono HB6.out.size))
  have d7 := HC4.out w7 (HB46.out.trans (hb7.mono HB46.out.size))
  clear hb7
  refine hK.out _ _ d7 (fun hHeld => ?_)
  clear hK K d7
  refine tk 5 22 (.bool true) rfl (.inl ⟨by rfl, ?_⟩) hHeld ?_
  ·intro W9 hSW; (try dsimp only at hSW); go_simp
  try simp only [Act.put, sA, sB, sC]
  refine tk 6 2 (.bool true) rfl (.inl ⟨by rfl, ?_⟩) hHeld ?_
  ·intro W9 hSW; (try dsimp only at hSW); go_simp
  try simp only [Act.put, sA, sB, sC]
  refine wpAnyH_done (by kernel_rfl) ?_ _
  clear hHeld hc0 hc1 hq
  go_wp2_with fail
  try simp only [Exit.inBlock, Exit.then]
  go_ret
  exact ⟨rfl, HB7.out⟩
 ·go_wp2_with fail
  go_ret
  exact ⟨rfl, HB2.out.trans ((aG w2 #[.slice none 0 0, .slice none 0 0] 26).mono HB2.out.size)⟩
end Go.Proofs.YtnpapppipccdbaaGreatDoor
namespace Go.Proofs.YtnpapppipccdbaaGreatDoor
open Go.ChangeShapes Go.WideShapes Go.RowKit
namespace OfFoldAgain
theorem LR : laidOutB Tryz.checked.prog = true := by kernel_rfl
theorem LS : mapsRowed Tryz.checked.prog = true := by kernel_rfl
theorem MC : namedTie Tryz.checked.prog Rows.foldAgainRow.named Rows.foldAgainSpec.vars = true := by kernel_rfl
theorem jIn : Tryz.checked.prog.inPlace 8 = Rows.foldAgainRow.inPlace := by kernel_rfl
theorem jUn : Tryz.checked.prog.unfollowed 8 = Rows.foldAgainRow.unfollowed := by kernel_rfl
theorem MD : Tryz.checked.prog.recurses 8 = Rows.foldAgainRow.recurses := by kernel_rfl
theorem LU : Tryz.checked.prog.varsNamed 8 = Rows.foldAgainRow.named := by kernel_rfl
theorem LA : Tryz.checked.prog.stopsHeard = true := by kernel_rfl
theorem LB : Tryz.checked.prog.mayEnter = true := by kernel_rfl
theorem LV : Tryz.checked.prog.liftsFinal = Rows.foldAgainRow.lifted := by kernel_rfl
theorem LW : Tryz.checked.prog.make = some Rows.foldAgainRow.make := by kernel_rfl
theorem joined : joinedFacts Tryz.checked.prog 8 Tryz.f8 Rows.foldAgainSpec Rows.foldAgainRow = true := by
 unfold joinedFacts
 rw [LR, LS, MC, jIn, jUn, MD, LU, LA, LB, LV, LW]
 kernel_rfl
theorem fnm : Tryz.checked.prog.funcNamed Rows.foldAgainRow.func = some 8 := by kernel_rfl
theorem MF : Tryz.f8.isInstance Tryz.checked.prog Rows.foldAgainRow.origin Rows.foldAgainRow.targs := of_decide_eq_true (by kernel_rfl)
theorem wrap : Tryz.f8.isWrapper Tryz.checked.prog Rows.foldAgainRow.wrapper Rows.foldAgainRow.mainSum := by unfold Func.isWrapper; first | (rw [if_pos (by decide +kernel)]; kernel_rfl) | (rw [if_neg (by decide +kernel)]; exact ⟨rfl, rfl⟩)
end OfFoldAgain
end Go.Proofs.YtnpapppipccdbaaGreatDoor
