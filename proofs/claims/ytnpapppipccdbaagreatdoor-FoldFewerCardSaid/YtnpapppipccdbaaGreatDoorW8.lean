/-
  Texts of one proof, in build order: TreeQ8 FoldM4 TreeQA TreeQH FoldY0 FoldA1 TreeW1 TreeW2 TreeW3 TreeW4 TreeW5 TreeW6 TreeW7 TreeW8 TreeW9 TreeWA TreeWB TreeWC TreeWD FoldA2 FoldA3 FoldA4 FoldA7 FoldFewerJ1 FoldFewerJ2
-/
import Derived.Test.YtnpapppipccdbaaGreatDoorW7
import Derived.Lib.ItoaNum
import Derived.Test.YtnpapppipccdbaaGreatDoorRows
import Derived.ProofKit
import Derived.SizedLaws
import Derived.Stop.Joined
set_option maxRecDepth 100000
set_option maxHeartbeats 12800000
namespace Go.Proofs.YtnpapppipccdbaaGreatDoor
open Go.RowKit Lx Tr
theorem qP {E : Env} : ∀ (f : Nat) (acc : List Pa) (n0 n : Nat) (x : List Pa) (m : Nat), params E f acc n = .ok x m -> (mI true acc).length + wsT E n0 <= wsT E n -> (mI true x).length + wsT E n0 <= wsT E m
 | 0, _, _, _, _, _, h, _ => by rw [params] at h; cases h
 | f + 1, acc, n0, n, x, m, h, ha => by
  rw [iN] at h
  obtain ⟨t, n1, h1, h⟩ := aA h
  obtain ⟨rfl, rfl⟩ := bW h1
  have hs : (mI true (acc ++ [⟨(pk E n).text, kindV (pk E (n + 1)).text, (pk E n).at_⟩])).length + wsT E n0 <= wsT E (n + 2) := by
   have hk := tE (kindV (pk E (n + 1)).text)
   rw [tC, u3]
   unfold paV
   split
   all_goals (simp only [List.length_append, List.length_cons, List.length_nil]; omega)
  by_cases q : kindV (pk E (n + 1)).text = 0
  ·rw [if_pos q] at h; exact (aN h).elim
  rw [if_neg q] at h
  by_cases q2 : (pk E (n + 1 + 1)).text = bY
  ·rw [if_pos q2] at h
   exact qP f _ n0 _ _ _ h (Nat.le_trans hs (by have := iW E (show n + 2 <= n + 1 + 2 by omega); omega))
  ·rw [if_neg q2] at h
   obtain ⟨_, n2, h2, h⟩ := aA h
   cases h
   have a2 := dN h2
   subst a2
   exact Nat.le_trans hs (by have := iW E (show n + 2 <= n + 1 + 1 + 1 by omega); omega)
theorem u4 {E : Env} (hnum : ∀ n, (pk E n).kind = 3 -> dP (pk E n).text <= 9223372036854775807) {f n m : Nat} {g : Fu} (h : Tr.function E f n = .ok g m) : fQ g.body /\ (fuV g).length + wsT E n <= wsT E m := by
 unfold Tr.function at h
 obtain ⟨_, n1, h1, h⟩ := aA h
 obtain ⟨t, n2, h2, h⟩ := aA h
 obtain ⟨_, n3, h3, h⟩ := aA h
 obtain ⟨ps, n4, h4, h⟩ := aA h
 obtain ⟨b, n5, h5, h⟩ := aA h
 cases h
 have a1 := dN h1
 subst a1
 obtain ⟨rfl, rfl⟩ := bW h2
 have a3 := dN h3
 subst a3
 have hp : (mI true ps).length + wsT E (n + 1 + 1 + 1) <= wsT E n4 := by
  by_cases q : (pk E (n + 1 + 1 + 1)).text = tRp
  ·rw [if_pos q] at h4
   cases h4
   have := iW E (show n + 1 + 1 + 1 <= n + 1 + 1 + 1 + 1 by omega)
   show ([] : Lx.B).length + _ <= _
   simp only [List.length_nil]
   omega
  ·rw [if_neg q] at h4
   exact qP f [] _ _ _ _ h4 (by show ([] : Lx.B).length + _ <= _; simp)
 obtain ⟨q1, q2⟩ := (KN hnum f).block _ _ _ _ h5 (by omega)
 refine ⟨q1, ?_⟩
 have hk := tE (kindV (pk E n4).text)
 have q3 : wsT E n4 <= wsT E (if kindV (pk E n4).text = 0 then n4 else n4 + 1) := by
  split
  ·exact Nat.le_refl _
  ·rw [aY]; omega
 rw [aY, aY, aY] at hp
 unfold fuV
 split
 all_goals (simp only [List.length_append, aE, A6, mH, List.length_cons, List.length_nil]; simp only [Nat.zero_add] at q2; omega)
theorem IP (g : Gl) : (glV g).length = g.name.length + 5 := by
 unfold glV
 simp only [aE, KL, List.length_append, List.length_cons, List.length_nil]
 omega
theorem k8 {E : Env} (hnum : ∀ n, (pk E n).kind = 3 -> dP (pk E n).text <= 9223372036854775807) : ∀ (f : Nat) (src : Src) (n : Nat) (x : Src) (m : Nat), Tr.program E f src n = .ok x m -> n <= E.toks.length -> tD src -> (hD src).length <= wsT E n -> tD x /\ (hD x).length <= wsT E E.toks.length
 | 0, _, _, _, _, h, _, _, _ => by rw [Tr.program] at h; cases h
 | f + 1, src, n, x, m, h, hn, hok, hl => by
  rw [fD] at h
  by_cases c0 : E.toks.length <= n
  ·rw [if_pos c0] at h
   cases h
   have : n = E.toks.length := by omega
   rw [<- this]
   exact ⟨hok, hl⟩
  rw [if_neg c0] at h
  by_cases c1 : (pk E n).text = oW
  ·rw [if_pos c1] at h
   by_cases c2 : 8 <= src.globals.length
   ·rw [if_pos c2] at h; exact (aN h).elim
   rw [if_neg c2] at h
   obtain ⟨t, n1, h1, h⟩ := aA h
   obtain ⟨_, n2, h2, h⟩ := aA h
   obtain ⟨rfl, rfl⟩ := bW h1
   obtain ⟨rfl, _⟩ := bW h2
   obtain ⟨b2, _⟩ := gQ (by decide) h2
   refine k8 hnum f _ _ _ _ h (by omega) hok ?_
   rw [aY, aY, aY]
   unfold hD at hl ⊢
   simp only [List.flatMap_append, List.flatMap_cons, List.flatMap_nil, List.length_append, List.length_nil] at hl ⊢
   have hg := IP ⟨(pk E (n + 1)).text, (pk E (n + 1)).at_⟩
   simp only at hg
   omega
  rw [if_neg c1] at h
  by_cases c2 : (pk E n).text = j8
  ·rw [if_pos c2] at h
   by_cases c3 : 12 <= src.funcs.length
   ·rw [if_pos c3] at h; exact (aN h).elim
   rw [if_neg c3] at h
   obtain ⟨g, n1, h1, h⟩ := aA h
   obtain ⟨_, n2, h2, h⟩ := aA h
   obtain ⟨q1, q2⟩ := u4 hnum h1
   obtain ⟨rfl, _⟩ := bW h2
   obtain ⟨b2, _⟩ := gQ (by decide) h2
   refine k8 hnum f _ _ _ _ h (by omega) (fun g' hg' => ?_) ?_
   ·rcases List.mem_append.1 hg' with e | e
    ·exact hok g' e
    ·rw [List.mem_singleton.1 e]; exact q1
   rw [aY]
   unfold hD at hl ⊢
   simp only [List.flatMap_append, List.flatMap_cons, List.flatMap_nil, List.length_append, List.length_nil] at hl ⊢
   omega
  rw [if_neg c2] at h
  exact (aN h).elim
def wlT : List Tok -> Nat
 | [] => 0
 | t :: ts => (t.text.length + 128) + wlT ts
theorem xP : ∀ (l : List Tok) (t : Tok), wlT (l ++ [t]) = wlT l + (t.text.length + 128)
 | [], t => by simp [wlT]
 | x :: l, t => by show (x.text.length + 128) + wlT (l ++ [t]) = _; rw [xP l t, wlT]; omega
theorem A7 (ts : List Tok) (e : Nat) : ∀ n, n <= ts.length -> wsT ⟨ts, e⟩ n = wlT (ts.take n)
 | 0, _ => by rw [List.take_zero]; rfl
 | n + 1, h => by
  have h1 : ts[n]? = some ts[n] := List.getElem?_eq_getElem (by omega)
  rw [List.take_add_one, h1, Option.toList_some, xP, aY, A7 ts e n (by omega)]
  unfold pk
  rw [h1]
  rfl
theorem IQ : ∀ (l : Lx.B) (a : Nat) (may : Bool) (ts : List Tok), lx l a may = (ts, none) -> wlT ts <= 129 * l.length + 128 := by
 refine lA (fun l _ _ ts => wlT ts <= 129 * l.length + 128) ?_ ?_ ?_
 ·intro a may
  unfold tP
  split
  ·simp [wlT]
  ·simp [wlT]
 ·intro l a may n ts _ _ _ _ _ ih
  rw [List.length_drop] at ih
  omega
 ·intro l a may k n ts hl hs h1 h2 _ ih
  rw [List.length_drop] at ih
  rw [wlT]
  simp only [List.length_take]
  omega
theorem tI : ∀ (l : Lx.B) (a : Nat) (may : Bool) (ts : List Tok), lx l a may = (ts, none) -> ∀ t ∈ ts, t.kind = 3 -> dP t.text <= 9223372036854775807 := by
 refine lA (fun _ _ _ ts => ∀ t ∈ ts, t.kind = 3 -> dP t.text <= 9223372036854775807) ?_ ?_ ?_
 ·intro a may t ht hk
  unfold tP at ht
  split at ht
  ·simp at ht; subst ht; cases hk
  ·cases ht
 ·intro l a may n ts _ _ _ _ _ ih
  exact ih
 ·intro l a may k n ts hl hs h1 h2 _ ih t ht hk
  rcases List.mem_cons.1 ht with rfl | ht
  ·have hk' : k = 3 := hk
   subst hk'
   exact Nat.le_of_not_lt (of_decide_eq_false (KK hl hs).2.1)
  ·exact ih t ht hk
theorem xQ {l : Lx.B} {ts : List Tok} {e m : Nat} {s : Src} (hts : lx l 0 false = (ts, none)) (h : Ev (fun f => Tr.program ⟨ts, e⟩ f ⟨[], []⟩ 0) (.ok s m)) : tD s /\ (hD s).length <= 129 * l.length + 128 := by
 obtain ⟨_, f0, h⟩ := h
 have hn := tI _ _ _ _ hts
 obtain ⟨h1, h2⟩ := k8 (E := ⟨ts, e⟩) (fun n hk => by
  have hlt := lU (E := ⟨ts, e⟩) (n := n) (by rw [hk]; decide)
  have h1 : ts[n]? = some ts[n] := List.getElem?_eq_getElem hlt
  have h2 : pk ⟨ts, e⟩ n = ts[n] := by unfold pk; rw [h1]; rfl
  rw [h2] at hk ⊢
  exact hn _ (List.getElem_mem hlt) hk) f0 ⟨[], []⟩ 0 s m (h f0 (Nat.le_refl _)) (Nat.zero_le _) (fun g hg => by cases hg) (Nat.zero_le _)
 refine ⟨h1, Nat.le_trans h2 ?_⟩
 have := IQ _ _ _ _ hts
 rw [show (⟨ts, e⟩ : Env).toks.length = ts.length from rfl, A7 ts e _ (Nat.le_refl _), List.take_length]
 exact this
theorem nG (x : Ex) : (exE x).code = x.code := by cases x <;> rw [exE] <;> rfl
theorem qQ (x : Ex) : (exE x).op = x.op := by cases x <;> rw [exE] <;> rfl
theorem FV (x : Ex) : (exE x).n = x.n := by cases x <;> rw [exE] <;> rfl
theorem A8 (x : Ex) : (exE x).l = exE x.l := by
 cases x
 ·rw [exE]; show Ex.nil = exE .nil; rw [exE]
 ·rw [exE]; rfl
theorem JB (x : Ex) : (exE x).r = exE x.r := by
 cases x
 ·rw [exE]; show Ex.nil = exE .nil; rw [exE]
 ·rw [exE]; rfl
theorem zL (x : Ex) : (exE x).at_ = 0 := by cases x <;> rw [exE] <;> rfl
theorem nH (x : Ex) : bG (exE x) = bG x := by unfold bG; rw [nG, FV, qQ, A8, nG, FV]
theorem nI (x : Ex) : cA (exE x) = cA x := by unfold cA; rw [nG, FV]
theorem FW (b : Bool) (a : Nat) : exE (mP b a) = mP b 0 := by unfold mP; rw [exE, exE, fL]
theorem J1 (n : Int) (a : Nat) : exE (oZ n a) = oZ n 0 := by
 unfold oZ
 split
 ·simp only [exE, fL]
 ·simp only [exE, fL]
theorem A9 (x : Ex) (n : Int) : exE (fM x n) = fM (exE x) n := by
 unfold fM
 split
 ·rfl
 ·rw [J1, zL]
theorem IR (x : Ex) (n : Int) : exE (kI x n) = kI (exE x) n := by
 unfold kI
 rw [qQ, zL]
 split
 ·rw [FW]
 ·rw [A9]
theorem tJ (x : Ex) (b : Bool) : exE (dR x b) = dR (exE x) b := by
 unfold dR
 rw [A8, JB, nI, nI]
 split
 ·split <;> rfl
 ·split
  ·split <;> rfl
  ·rfl
theorem IU (x : Ex) : exE (lK x) = lK (exE x) := by
 unfold lK
 rw [A8, JB, nH, nH, qQ]
 split
 ·split
  ·rw [IR]
  ·rfl
 ·split <;> rfl
 ·split <;> rfl
 ·rfl
theorem J2 (x : Ex) : exE (rD x) = rD (exE x) := by
 unfold rD
 rw [qQ]
 split
 ·rw [tJ]
 ·split
  ·rw [tJ]
  ·split
   ·rw [IU]
   ·rfl
theorem J3 (x : Ex) : exE (rE x) = rE (exE x) := by
 unfold rE
 rw [nH, A8, nI, nH, qQ, zL]
 split
 ·rfl
 ·split
  ·rw [FW]
  ·split
   ·rw [A9]
   ·rfl
theorem J4 (x : Ex) : exE (lW x) = lW (exE x) := by
 unfold lW
 rw [nG]
 split
 ·rw [J2]
 ·split
  ·rw [J3]
  ·rfl
mutual
theorem j0 : ∀ x : Ex, exE (aI x) = aI (exE x)
 | .nil => by rw [aI, exE, aI]
 | .mk c a n op nm l r zs => by
  rw [aI, J4, exE, exE, aI, j0 l, j0 r, xR zs]
theorem xR : ∀ xs : Exs, fL (bE xs) = bE (fL xs)
 | .nil => by rw [bE, fL, bE]
 | .cons x xs => by rw [bE, fL, fL, bE, j0 x, xR xs]
end
theorem J5 (s : St) : (rF s).map stE = rF (stE s) := by
 obtain ⟨c, a, nm, x, v, t, e, cs⟩ := s
 rw [stE, k9, k9, nI, kZ, kZ]
 split
 ·rw [Option.map_some, stE]
 ·split
  ·split
   ·rw [Option.map_some, stE]
   ·rfl
  ·split
   ·split
    ·rw [Option.map_some, stE, cN]
    ·rfl
   ·split
    ·split
     ·rw [Option.map_some, stE, cN]
     ·rfl
    ·rw [Option.map_some, stE]
mutual
theorem IV : ∀ s : St, (eL s).map stE = eL (stE s)
 | .mk c a nm x v t e cs => by
  rw [eL, J5, stE, stE, eL, j0 x, j0 v, iR t, iR e, xS cs]
theorem iR : ∀ ss : Sts, cN (aD ss) = aD (cN ss)
 | .nil => by rw [aD, cN, aD]
 | .cons s ss => by
  have h := IV s
  rw [aD, cN, aD, <- h]
  cases eL s with
  | none => exact iR ss
  | some y =>
   show cN (.cons y (aD ss)) = .cons (stE y) (aD (cN ss))
   rw [cN, iR ss]
theorem IW : ∀ c : Ca, caE (gR c) = gR (caE c)
 | .mk c a nm x v b => by rw [gR, caE, caE, gR, j0 x, j0 v, iR b]
theorem xS : ∀ cs : Cas, gP (bC cs) = bC (gP cs)
 | .nil => by rw [bC, gP, bC]
 | .cons c cs => by rw [bC, gP, gP, bC, IW c, xS cs]
end
mutual
theorem qR : ∀ x : Ex, szE (exE x) = szE x
 | .nil => by rw [exE]
 | .mk c a n op nm l r zs => by rw [exE, szE, szE, qR l, qR r, FX zs]
theorem FX : ∀ xs : Exs, kM (fL xs) = kM xs
 | .nil => by rw [fL]
 | .cons x xs => by rw [fL, kM, kM, qR x, FX xs]
end
mutual
theorem KO : ∀ s : St, szS (stE s) = szS s
 | .mk c a nm x v t e cs => by rw [stE, szS, szS, qR x, qR v, oC t, oC e, FY cs]
theorem oC : ∀ ss : Sts, iT (cN ss) = iT ss
 | .nil => by rw [cN]
 | .cons x xs => by rw [cN, iT, iT, KO x, oC xs]
theorem KP : ∀ c : Ca, szC (caE c) = szC c
 | .mk c a nm x v b => by rw [caE, szC, szC, qR x, qR v, oC b]
theorem FY : ∀ cs : Cas, mF (gP cs) = mF cs
 | .nil => by rw [gP]
 | .cons x xs => by rw [gP, mF, mF, KP x, FY xs]
end
def oQ : Sts -> Ex
 | .nil => .nil
 | .cons (.mk _ _ _ _ v _ _ _) _ => v
theorem BA (ss : Sts) : oQ (cN ss) = exE (oQ ss) := by
 cases ss with
 | nil => rw [cN]; show Ex.nil = exE .nil; rw [exE]
 | cons s xs => obtain ⟨c, a, nm, x, v, t, e, cs⟩ := s; rw [cN, stE]; rfl
def pF : Lx.B := [102, 117, 110, 99, 32, 109, 97, 105, 110, 40, 41, 32, 123, 10, 112, 114, 105, 110, 116, 32, 50, 32, 42, 32, 51, 32, 43, 32, 49, 10, 105, 102, 32, 102, 97, 108, 115, 101, 32, 123, 10, 125, 10, 125]
def qS (s : Src) : Bool := s.globals.length == 0 && (s.funcs.length == 1 && (s.funcs.all (fun f => f.params.length == 0 && (decide (iT f.body <= 1000) && ((aD f.body).len == 1 && exV 1 (oQ (aD f.body)) == [55])))))
def BB : Bool := match lx pF 0 false with
 | (ts, none) => match Tr.program ⟨ts, 44⟩ 200 ⟨[], []⟩ 0 with
  | .ok s _ => qS s
  | _ => false
 | _ => false
theorem FZ : BB = true := by kernel_rfl
theorem qT : ∃ ts s m, lx pF 0 false = (ts, none) /\ Tr.program ⟨ts, 44⟩ 200 ⟨[], []⟩ 0 = .ok s m /\ qS s = true := by
 have h := FZ
 unfold BB at h
 split at h
 ·rename_i ts hts
  split at h
  ·rename_i s m hs
   exact ⟨ts, s, m, hts, hs, h⟩
  ·cases h
 ·cases h
theorem xT {r : Res Src} {ts : List Tok} (hts : lx pF 0 false = (ts, none)) (hr : Ev (fun f => Tr.program ⟨ts, 44⟩ f ⟨[], []⟩ 0) r) :
  ∃ s m f, r = .ok s m /\ s.globals = [] /\ s.funcs = [f] /\ f.params = [] /\ iT f.body <= 1000 /\ (aD f.body).len = 1 /\ exV 1 (oQ (aD f.body)) = [55] := by
 obtain ⟨ts', s, m, h1, h2, h3⟩ := qT
 rw [hts] at h1
 cases h1
 simp only [qS, Bool.and_eq_true, beq_iff_eq] at h3
 obtain ⟨a1, a2, a3⟩ := h3
 obtain ⟨s', m', rfl, e1, e2⟩ := tV h2 (by omega) (by omega) hr
 obtain ⟨g, hg⟩ := List.length_eq_one_iff.1 a2
 rw [hg] at a3 e2
 simp only [List.all_cons, List.all_nil, Bool.and_true, Bool.and_eq_true, beq_iff_eq, decide_eq_true_eq] at a3
 obtain ⟨b1, b2, b3, b4⟩ := a3
 rw [List.length_eq_zero_iff] at a1
 rw [a1] at e1
 have hf1 : s'.funcs.length = 1 := by simpa using congrArg List.length e2
 obtain ⟨f, hf⟩ := List.length_eq_one_iff.1 hf1
 rw [hf] at e2
 injection e2 with e2 _
 have p1 := congrArg (fun f : Fu => f.params.length) e2
 have p2 := congrArg (fun f : Fu => f.body) e2
 simp only [fuE, List.length_map] at p1 p2
 have p3 : cN (aD f.body) = cN (aD g.body) := by rw [iR, iR, p2]
 refine ⟨s', m', f, rfl, ?_, hf, ?_, ?_, ?_, ?_⟩
 ·exact List.map_eq_nil_iff.1 e1
 ·exact List.length_eq_zero_iff.1 (by omega)
 ·rw [<- oC, p2, oC]; exact b2
 ·rw [<- kZ, p3, kZ]; exact b3
 ·rw [<- JA, <- BA, p3, BA, JA]; exact b4
end Go.Proofs.YtnpapppipccdbaaGreatDoor
namespace Go.Proofs.YtnpapppipccdbaaGreatDoor
open Go.RowKit Lx Tr
variable {w w' : World}
structure LawEnv (w : World) : Prop where
 tree : TreeEnv w
 pow : PowT w
 pb : 4 < w.heap.size
theorem LawEnv.penv (h : LawEnv w) : PEnv w.heap.size w := ⟨h.tree.signs, h.tree.b1, h.pow, h.pb, h.tree.kinds, h.tree.b2⟩
theorem LawEnv.below (h : LawEnv w) (hb : Below w.heap.size w w') : LawEnv w' := by
 have hl := h.tree.lex.below hb (Nat.le_refl _)
 have hp := h.penv.below hb
 have hz := hb.size
 exact ⟨⟨⟨hl.tabs, hl.errR, hl.sgs, by have := hl.b1; omega, by have := hl.b2; omega, by have := hl.b3; omega, by have := hl.b4; omega⟩, hp.signs, hp.kinds, by have := hp.b1; omega, by have := hp.b3; omega⟩, hp.pow, by have := hp.b2; omega⟩
theorem qU (w : World) : (binOp BinOp.eql 35 .nilIface .nilIface).run Tryz.prog w = .ok (.bool true) w := by kernel_rfl
theorem F0 (p : Addr) (w : World) : (binOp BinOp.eql 35 (.iface 145 (.pointer (some p))) .nilIface).run Tryz.prog w = .ok (.bool false) w := by kernel_rfl
theorem DQ (s : ByteArray) (w : World) : Calls Tryz.prog 63 #[.string s] w fun e w' => e = .returned (.bool (decide (1500 < s.size))) /\ w = w' := by
 go_enter Tryz.func63, Tryz.ntmps63
 go_wp2_with fail
 go_ret
 refine ⟨?_, rfl⟩
 have e : ((1500 : Int) < (s.size : Int)) ↔ 1500 < s.size := by omega
 show Ending.returned (Value.bool (decide ((1500 : Int) < (s.size : Int)))) = _
 rw [decide_eq_decide.2 e]
def F1 (w w' : World) (s : ByteArray) (e : Ending) : Prop :=
 (∃ ts src m gv fv, s.size <= 1500 /\ lx s.data.toList 0 false = (ts, none) /\ Ev (fun f => Tr.program ⟨ts, s.size⟩ f ⟨[], []⟩ 0) (.ok src m) /\ e = .returned (.tuple #[.agg #[gv, fv], .bool true]) /\ SrcO w' w.heap.size src gv fv) \/ e = .returned (.tuple #[.agg #[.slice none 0 0, .slice none 0 0], .bool false])
theorem DR {s : ByteArray} {e : Ending} (hs : s.size <= 4000) (h : fG w w' s e) : (∃ ts src m gv fv, lx s.data.toList 0 false = (ts, none) /\ Ev (fun f => Tr.program ⟨ts, s.size⟩ f ⟨[], []⟩ 0) (.ok src m) /\ e = .returned (.tuple #[.agg #[gv, fv], .nilIface]) /\ SrcO w' w.heap.size src gv fv) ∨
  ∃ b, e = .returned (.tuple #[.agg #[.slice none 0 0, .slice none 0 0], .iface 145 (.pointer (some ⟨b, 0, none⟩))]) := by
 unfold fG at h
 rw [if_neg (by omega)] at h
 split at h
 ·obtain ⟨x, rfl, b, rfl, _⟩ := h
  exact Or.inr ⟨b, rfl⟩
 ·rename_i ts hts
  obtain ⟨r, hev, hr⟩ := h
  cases r with
  | out => exact hr.elim
  | bad k a =>
   obtain ⟨x, rfl, b, rfl, _⟩ := hr
   exact Or.inr ⟨b, rfl⟩
  | ok src m =>
   obtain ⟨gv, fv, rfl, hs⟩ := hr
   exact Or.inl ⟨ts, src, m, gv, fv, hts, hev, rfl, hs⟩
theorem F2 (s : ByteArray) (w : World) (hE : LawEnv w) : Calls Tryz.prog 23 #[.string s] w fun e w' => F1 w w' s e /\ Below w.heap.size w w' := by
 have hb0 := eA w #[.slice none 0 0, .slice none 0 0] 26
 have HL := zz (DQ s (w.alloc (.cells #[.slice none 0 0, .slice none 0 0] 26)))
 have HP := zz (lQ s (w.alloc (.cells #[.slice none 0 0, .slice none 0 0] 26)) (hE.below hb0).tree)
 have HB0 := zz hb0
 clear hE hb0
 go_enter Tryz.func23, Tryz.ntmps23
 go_wp2_with fail
 refine HL.out.mono ?_
 rintro e w1 ⟨rfl, rfl⟩
 by_cases hs : 1500 < s.size
 ·rw [decide_eq_true hs]
  clear hs
  go_wp2_with fail
  refine bodyPost_ret (v := .tuple #[sS, .bool false]) (by simp [results, Tryz.results23, go_sem]; rfl) rfl ?_
  exact ⟨Or.inr rfl, HB0.out⟩
 ·rw [decide_eq_false hs]
  have HS : Hid (s.size <= 1500) := zz (by omega)
  clear hs
  go_wp2_with fail
  refine HP.out.mono ?_
  rintro e w2 ⟨hsay, hb2⟩
  have hz : w.heap.size < w2.heap.size := Nat.lt_of_lt_of_le (by simp) hb2.size
  have c0 : w2.cell? ⟨w.heap.size, 0, none⟩ = some (.slice none 0 0) := by rw [hb2.cell (p := ⟨w.heap.size, 0, none⟩) (by simp)]; exact bJ _ _ _ 0 _ rfl (by simp)
  have c1 : w2.cell? ⟨w.heap.size, 1, none⟩ = some (.slice none 0 0) := by rw [hb2.cell (p := ⟨w.heap.size, 1, none⟩) (by simp)]; exact bJ _ _ _ 1 _ rfl (by simp)
  have z0 : w2.frozen? ⟨w.heap.size, 0, none⟩ = false := by rw [hb2.frozen (p := ⟨w.heap.size, 0, none⟩) (by simp)]; exact World.frozen?_alloc_new _ _ _ _
  have z1 : w2.frozen? ⟨w.heap.size, 1, none⟩ = false := by rw [hb2.frozen (p := ⟨w.heap.size, 1, none⟩) (by simp)]; exact World.frozen?_alloc_new _ _ _ _
  have HB2 := zz (HB0.out.trans (hb2.mono HB0.out.size))
  have HZ := zz hz
  rcases DR (by have := HS.out; omega) hsay with ⟨ts, src, m, gv, fv, hts, hev, rfl, hsrc⟩ | ⟨b, rfl⟩
  ·obtain ⟨⟨ga, gl, gc, rfl⟩, fa, fl, fc, rfl⟩ := hsrc.form
   have HTS := zz hts
   have HEV := zz hev
   have HSRC := zz hsrc
   clear hsay hb2 hts hev hsrc
   have hE1 := qU
   go_wp2_with fail
   go_region
   go_wp2_with fail
   try simp only [Exit.inBlock, Exit.then]
   have hks : Keeps (fun k => k = w.heap.size) w2 ((((w2.setCell ⟨w.heap.size, 0, none⟩ (.slice ga gl gc)).setCell ⟨w.heap.size, 1, none⟩ (.slice fa fl fc)).alloc (.cells #[.slice ga gl gc, .slice fa fl fc] 26)).drew) := ((l8 (w := w2)).alloc _).drew
   have e0 : (((w2.setCell ⟨w.heap.size, 0, none⟩ (.slice ga gl gc)).setCell ⟨w.heap.size, 1, none⟩ (.slice fa fl fc)).alloc (.cells #[.slice ga gl gc, .slice fa fl fc] 26)).cell? ⟨w.heap.size, 0, none⟩ = some (.slice ga gl gc) := aV (by rw [World.cell?_setCell_other _ _ _ _ (fun e => by injection e with _ e _; cases e)]; exact World.cell?_setCell_same _ _ _ c0)
   have e1 : (((w2.setCell ⟨w.heap.size, 0, none⟩ (.slice ga gl gc)).setCell ⟨w.heap.size, 1, none⟩ (.slice fa fl fc)).alloc (.cells #[.slice ga gl gc, .slice fa fl fc] 26)).cell? ⟨w.heap.size, 1, none⟩ = some (.slice fa fl fc) := aV (World.cell?_setCell_same _ _ _ (by rw [World.cell?_setCell_other _ _ _ _ (fun e => by injection e with _ e _; cases e)]; exact c1))
   refine bodyPost_ret (v := .tuple #[.agg #[.slice ga gl gc, .slice fa fl fc], .bool true]) (by simp [results, Tryz.results23, go_sem, e0, e1]) rfl ?_
   have hz0 := HZ.out
   exact ⟨Or.inl ⟨ts, src, m, _, _, HS.out, HTS.out, HEV.out, rfl, SrcO.mono (B := (w.alloc (.cells #[.slice none 0 0, .slice none 0 0] 26)).heap.size) (by simp) (HSRC.out.keeps hks (fun b e e2 => by have h9 : b = w.heap.size := e2; have h8 : w.heap.size + 1 <= b := (by simpa using e); omega))⟩, HB2.out.trans (hks.below (by omega) (fun k _ e => by have h9 : k = w.heap.size := e; omega))⟩
  ·clear hsay hb2
   have hE1 := F0 ⟨b, 0, none⟩
   go_wp2_with fail
   go_region
   go_wp2_with fail
   try simp only [Exit.inBlock, Exit.then]
   have hks : Keeps (fun k => k = w.heap.size) w2 ((((w2.setCell ⟨w.heap.size, 0, none⟩ (.slice none 0 0)).setCell ⟨w.heap.size, 1, none⟩ (.slice none 0 0)).alloc (.cells #[.slice none 0 0, .slice none 0 0] 26)).drew) := ((l8 (w := w2)).alloc _).drew
   have e0 : (((w2.setCell ⟨w.heap.size, 0, none⟩ (.slice none 0 0)).setCell ⟨w.heap.size, 1, none⟩ (.slice none 0 0)).alloc (.cells #[.slice none 0 0, .slice none 0 0] 26)).cell? ⟨w.heap.size, 0, none⟩ = some (.slice none 0 0) := aV (by rw [World.cell?_setCell_other _ _ _ _ (fun e => by injection e with _ e _; cases e)]; exact World.cell?_setCell_same _ _ _ c0)
   have e1 : (((w2.setCell ⟨w.heap.size, 0, none⟩ (.slice none 0 0)).setCell ⟨w.heap.size, 1, none⟩ (.slice none 0 0)).alloc (.cells #[.slice none 0 0, .slice none 0 0] 26)).cell? ⟨w.heap.size, 1, none⟩ = some (.slice none 0 0) := aV (World.cell?_setCell_same _ _ _ (by rw [World.cell?_setCell_other _ _ _ _ (fun e => by injection e with _ e _; cases e)]; exact c1))
   refine bodyPost_ret (v := .tuple #[.agg #[.slice none 0 0, .slice none 0 0], .bool false]) (by simp [results, Tryz.results23, go_sem, e0, e1]) rfl ?_
   have hz0 := HZ.out
   exact ⟨Or.inr rfl, HB2.out.trans (hks.below (by omega) (fun k _ e => by have h9 : k = w.heap.size := e; omega))⟩
theorem j1 {w : World} {base : Nat} {e : TypeId} {size : Nat} {v : Value} {n : Nat} {xs : List Value} (h : w.ownsRow base e size v n xs) : ∃ ao cap, v = .slice ao n cap := by
 rcases h.2 with ⟨e1, e2⟩ | ⟨g, cap, cur, e1, _⟩
 ·exact ⟨none, 0, by rw [e1, e2]⟩
 ·exact ⟨_, _, e1⟩
theorem SrcO.toG {B : Nat} {G : Nat -> Prop} {src : Src} {gv fv : Value} (h : SrcO w B src gv fv) (hG : ∀ b, b < w.heap.size -> B <= b -> G b) : JW w G src gv fv := by
 obtain ⟨fvals, h2, h3, h4, h5, h6, h7⟩ := h
 refine ⟨?_, ?_⟩
 ·by_cases hz : src.globals = []
  ·exact Or.inl ⟨h5 hz, hz⟩
  ·have hpos : 0 < src.globals.length := List.length_pos_iff.2 hz
   rcases h2.2 with ⟨_, e⟩ | ⟨g, cap, cur, e1, e2, e5, e3, e4, _⟩
   ·omega
   ·refine Or.inr ⟨g, cap, e1, e3, e4, hG g (Array.getElem?_eq_some_iff.1 e5).1 e2, hpos, fun i p hi => ?_⟩
    obtain ⟨a1, a2⟩ := mB src.globals i p hi
    have hin := (List.getElem?_eq_some_iff.1 hi).1
    subst e1
    rw [World.ownsRow.cellAt h2 (i * 2) (by omega), World.ownsRow.cellAt h2 (i * 2 + 1) (by omega)]
    exact ⟨a1, a2⟩
 ·by_cases hz : src.funcs = []
  ·exact Or.inl ⟨h6 hz, hz⟩
  ·have hpos : 0 < src.funcs.length := List.length_pos_iff.2 hz
   rcases h3.2 with ⟨_, e⟩ | ⟨g, cap, cur, e1, e2, e5, e3, e4, _⟩
   ·omega
   ·refine Or.inr ⟨g, cap, e1, e3, e4, hG g (Array.getElem?_eq_some_iff.1 e5).1 e2, hpos, fun i p hi => ?_⟩
    subst e1
    have h8 := RowF.lies src.funcs fvals 0 (g := g) (fun j v hj => by
     rw [show 0 * 5 + j = j by omega, World.ownsRow.cellAt h3 j (by have := (List.getElem?_eq_some_iff.1 hj).1; have := h3.1; omega)]
     exact hj) (RowF.mono (fun b hb e => hG b hb e.1) _ _ h4) i p hi
    rw [Nat.zero_add] at h8
    exact h8
theorem IX {s y : St} (h : rI s) (hy : rF s = some y) : rI y := by
 obtain ⟨c, a, nm, x, v, t, e, cs⟩ := s
 obtain ⟨h1, h2, h3, h4, h5⟩ := h
 rw [k9] at hy
 split at hy
 ·obtain rfl := Option.some.inj hy
  exact ⟨h1, h2, h3, h4, h5⟩
 ·split at hy
  ·split at hy
   ·obtain rfl := Option.some.inj hy
    exact ⟨h1, h2, h3, h4, h5⟩
   ·cases hy
  ·split at hy
   ·split at hy
    ·obtain rfl := Option.some.inj hy
     exact ⟨h1, h2, h3, trivial, h5⟩
    ·cases hy
   ·split at hy
    ·split at hy
     ·obtain rfl := Option.some.inj hy
      exact ⟨h1, h2, trivial, h4, h5⟩
     ·cases hy
    ·obtain rfl := Option.some.inj hy
     exact ⟨h1, h2, h3, h4, h5⟩
mutual
theorem F3 : ∀ s : St, rI s -> ∀ y, eL s = some y -> rI y
 | .mk c a nm x v t e cs, h, y, hy => by
  obtain ⟨h1, h2, h3, h4, h5⟩ := h
  rw [eL] at hy
  have hk : rI (.mk c a nm (aI x) (aI v) (aD t) (aD e) (bC cs)) := ⟨fR x h1, fR v h2, iK t h3, iK e h4, tK cs h5⟩
  exact IX hk hy
theorem iK : ∀ ss : Sts, fQ ss -> fQ (aD ss)
 | .nil, _ => by rw [aD]; trivial
 | .cons s ss, h => by
  obtain ⟨h1, h2⟩ := h
  have hs := F3 s h1
  have hss := iK ss h2
  rw [aD]
  split
  ·rename_i y hy
   exact ⟨hs y hy, hss⟩
  ·exact hss
theorem F4 : ∀ c : Ca, yJ c -> yJ (gR c)
 | .mk c a nm x v b, h => by
  obtain ⟨h1, h2, h3⟩ := h
  rw [gR]; exact ⟨fR x h1, fR v h2, iK b h3⟩
theorem tK : ∀ cs : Cas, mV cs -> mV (bC cs)
 | .nil, _ => by rw [bC]; trivial
 | .cons c cs, h => by
  obtain ⟨h1, h2⟩ := h
  rw [bC]; exact ⟨F4 c h1, tK cs h2⟩
end
theorem F5 {ss : Sts} (h : fQ ss) : bX (oQ ss) := by
 cases ss with
 | nil => trivial
 | cons s xs => obtain ⟨c, a, nm, x, v, t, e, cs⟩ := s; exact h.1.2.1
theorem zM {F : Nat -> Prop} {fa : Option Addr} {fc : Nat} {f : Fu} (h : dT w F (.slice fa 1 fc) [f]) (hl : f.body.len = 1) : ∃ g bo bc q, fa = some ⟨g, 0, none⟩ /\ 1 <= fc /\ w.cell? ⟨g, 4, none⟩ = some (.slice (some ⟨bo, 0, none⟩) 1 bc) /\ 1 <= bc /\ w.cell? ⟨bo, 4, none⟩ = some (.pointer q) /\ ExIn w F (.pointer q) (oQ f.body) := by
 rcases h with ⟨_, e⟩ | ⟨g, cap, e, h1, h2, h3, h4, h5⟩
 ·cases e
 injection e with e1 _ e3
 subst e1
 subst e3
 obtain ⟨pv, bv, _, _, _, _, c4, _, hst⟩ := h5 0 f rfl
 cases hb : f.body with
 | nil => rw [hb] at hl; exact absurd hl (by decide)
 | cons s xs =>
  rw [hb] at hst hl
  rcases hst.1 with ⟨_, e0⟩ | ⟨bo, bc, e, k1, _, _, _⟩
  ·rw [e0] at hl; exact absurd hl (by decide)
  rw [hl] at e k1
  subst e
  have hin := hst.2 bo 1 bc rfl
  obtain ⟨c, a, nm, dst, val, thn, els, cs⟩ := s
  obtain ⟨tv, vv, nv, ev, cv, _, _, _, _, b4, _, _, _, _, hx, _⟩ := hin.1
  obtain ⟨q, rfl⟩ := kW hx
  simp only [Nat.zero_mul, Nat.zero_add] at b4 c4
  exact ⟨g, bo, bc, q, rfl, h1, c4, k1, b4, hx⟩
theorem u6 {s : ByteArray} {e : Ending} (hs : s.size = 44) (hl : s.data.toList = pF) (h : fG w w' s e) : ∃ f gv fv, e = .returned (.tuple #[.agg #[gv, fv], .nilIface]) /\ SrcO w' w.heap.size ⟨[], [f]⟩ gv fv /\ fQ f.body /\ f.params = [] /\ iT f.body <= 1000 /\ (aD f.body).len = 1 /\ exV 1 (oQ (aD f.body)) = [55] := by
 obtain ⟨ts0, s0, m0, h1, _, _⟩ := qT
 unfold fG at h
 rw [if_neg (by omega), hl, hs] at h
 rw [h1] at h
 simp only at h
 obtain ⟨r, hev, hr⟩ := h
 obtain ⟨src, m, f, rfl, a1, a2, a3, a4, a5, a6⟩ := xT h1 hev
 obtain ⟨gv, fv, rfl, hso⟩ := hr
 have hok := (xQ h1 hev).1
 obtain ⟨gs, fs⟩ := src
 simp only at a1 a2
 subst a1
 subst a2
 exact ⟨f, gv, fv, rfl, hso, hok f (List.mem_singleton.2 rfl), a3, a4, a5, a6⟩
theorem zN (w : World) (hE : LawEnv w) : Calls Tryz.prog 32 #[] w fun e w' => e = .returned (.bool true) /\ Below w.heap.size w w' := by
 have HE := zz hE
 clear hE
 go_enter Tryz.func32, Tryz.ntmps32
 go_wp2_with fail
 refine (lQ _ _ HE.out.tree).mono ?_
 rintro e w1 ⟨hsay, hb1⟩
 obtain ⟨f, gv, fv, rfl, hso, hok, hp, hz, hl1, hx7⟩ := u6 (by kernel_rfl) (by kernel_rfl) hsay
 clear hsay
 have hg0 : gv = .slice none 0 0 := hso.choose_spec.2.2.2.1 rfl
 subst hg0
 obtain ⟨fa, fc, rfl⟩ := j1 hso.choose_spec.2.1
 have hso2 : JW (w1.alloc (.cells #[.slice none 0 0, .slice fa 1 fc] 26)) (fun b => b < (w1.alloc (.cells #[.slice none 0 0, .slice fa 1 fc] 26)).heap.size) ⟨[], [f]⟩ (.slice none 0 0) (.slice fa 1 fc) := (hso.keeps (S := fun _ => False) ((Keeps.refl _ _).alloc _) (fun _ _ e => e)).toG (fun b h1 _ => h1)
 have hbx := hb1.trans ((eA w1 #[.slice none 0 0, .slice fa 1 fc] 26).mono hb1.size)
 have HF : Hid (Calls Tryz.prog 30 #[.agg #[.slice none 0 0, .slice fa 1 fc]] (w1.alloc (.cells #[.slice none 0 0, .slice fa 1 fc] 26)) _) := zz (xA (src := ⟨[], [f]⟩) ⟨Nat.zero_le _, (by show 1 <= 1000000; decide), fun g hg => by rw [List.mem_singleton.1 hg]; exact ⟨by rw [hp]; decide, hok, by omega⟩⟩ _ (fun _ h => h) hso2.1 hso2.2)
 have HBX := zz hbx
 have HOK := zz (F5 (iK _ hok))
 have HL1 := zz hl1
 have HX7 := zz hx7
 clear hso hso2 hbx hb1 hok hp hz hl1 hx7
 have hEN := qU
 go_wp2_with fail
 refine HF.out.mono ?_
 rintro e w2 ⟨ga', gc', fa', fc', rfl, _, hfu, hb2⟩
 have hb3 := HBX.out.trans (hb2.mono HBX.out.size)
 have hfu2 : dT (w2.alloc (.cells #[.slice ga' 0 gc', .slice fa' 1 fc'] 26)) (fun b => b < (w2.alloc (.cells #[.slice ga' 0 gc', .slice fa' 1 fc'] 26)).heap.size) (.slice fa' 1 fc') [gS f] := fB (fun b h1 _ => h1) (cZ (S := fun _ => False) hfu ((Keeps.refl _ _).alloc _) (fun _ _ e => e))
 obtain ⟨g, bo, bc, q, rfl, k1, c4, k2, b4, hx⟩ := zM hfu2 HL1.out
 have hb4 := hb3.trans ((eA w2 #[.slice ga' 0 gc', .slice (some ⟨g, 0, none⟩) 1 fc'] 26).mono hb3.size)
 have HT := zz (II (oQ (aD f.body)) HOK.out _ _ (Nat.le_refl _) (HE.out.below hb4).penv hx (by rw [HX7.out]; decide))
 rw [HX7.out] at HT
 unfold xN at HT
 have HB4 := zz hb4
 clear hfu hfu2 hx hb2 hb3 hb4
 go_wp2_with fail
 refine HT.out.mono ?_
 rintro e w4 ⟨rfl, hb5⟩
 have HB5 := zz (HB4.out.trans (hb5.mono HB4.out.size))
 clear hb5
 go_wp2_with fail
 go_ret
 have hq : ((mkT [55]).toList == [55]) = true := by rw [ByteArray.toList_eq]; exact beq_self_eq_true _
 refine ⟨?_, HB5.out⟩
 first
  | rfl
  | (show Ending.returned (.bool ((mkT [55]).toList == [55])) = _; rw [hq])
end Go.Proofs.YtnpapppipccdbaaGreatDoor
namespace Go.Proofs.YtnpapppipccdbaaGreatDoor
open Go.RowKit Lx Tr
mutual
def lwE : Ex -> Nat
 | .nil => 0
 | .mk _ _ _ _ nm l r zs => 27 + nm.length + lwE l + lwE r + nJ zs
def nJ : Exs -> Nat
 | .nil => 0
 | .cons x xs => 2 + lwE x + nJ xs
end
mutual
theorem lT : ∀ (x : Ex) (k : Nat), bX x -> (exW k x (aF x)).length <= lwE x
 | .nil, _, _ => Nat.zero_le _
 | .mk c a n op nm l r zs, k, h => by
  have hl1 := lT l (bL op) h.2.1
  have hl2 := lT l 6 h.2.1
  have hl3 := lT l 1 h.2.1
  have hr1 := lT r (bL op + 1) h.2.2.1
  have hz := BC zs true h.2.2.2
  have hn : n <= 9223372036854775807 := h.1
  have h1 : (jX n).length <= 21 := Lib.itoa_length_le _ (by omega) (by omega)
  have h2 := uZ op
  have h3 := lG op
  have t1 : cP.length = 5 := rfl
  have t2 : eK.length = 4 := rfl
  have t3 : hZ.length = 3 := rfl
  have t4 : aK.length = 2 := rfl
  have t5 : dQ.length = 4 := rfl
  have t6 : hY.length = 3 := rfl
  have hb : (aF (.mk c a n op nm l r zs)).length + 2 <= lwE (.mk c a n op nm l r zs) := by
   rw [aF, lwE]
   split
   ·omega
   ·split
    ·split <;> omega
    ·split
     ·omega
     ·split
      ·omega
      ·split
       ·simp only [List.length_append, List.length_cons, List.length_nil]; omega
       ·split
        ·simp only [List.length_append]; omega
        ·split
         ·simp only [List.length_append]; omega
         ·split
          ·simp only [List.length_append, List.length_cons, List.length_nil]; omega
          ·split
           ·simp only [List.length_append, List.length_cons, List.length_nil]; omega
           ·split
            ·simp only [List.length_append, List.length_cons, List.length_nil]; omega
            ·simp only [List.length_nil]; omega
  unfold exW
  split
  ·exact Nat.zero_le _
  ·rename_i e
   split
   ·simp only [List.length_append, List.length_cons, List.length_nil]; omega
   ·omega
theorem BC : ∀ (zs : Exs) (f : Bool), kA zs -> (fH f zs).length <= nJ zs
 | .nil, _, _ => Nat.zero_le _
 | .cons x xs, f, h => by
  have k1 := lT x 1 h.1
  have k2 := BC xs false h.2
  rw [fH, nJ]
  cases f with
  | true => simp only [List.length_append, List.length_nil, if_true]; omega
  | false => simp only [List.length_append, List.length_cons, List.length_nil, Bool.false_eq_true, if_false]; omega
end
theorem K9 (x : Ex) : lwE x.l <= lwE x := by
 cases x with
 | nil => exact Nat.le_refl _
 | mk c a n op nm l r zs => rw [lwE]; show lwE l <= _; omega
theorem LA (x : Ex) : lwE x.r <= lwE x := by
 cases x with
 | nil => exact Nat.le_refl _
 | mk c a n op nm l r zs => rw [lwE]; show lwE r <= _; omega
theorem zO {x : Ex} (h : x.code ≠ 0) : 27 <= lwE x := by
 cases x with
 | nil => exact absurd rfl h
 | mk c a n op nm l r zs => rw [lwE]; omega
theorem BD (b : Bool) (a : Nat) : lwE (mP b a) = 27 := by unfold mP; rw [lwE, lwE, nJ]; rfl
theorem IY (n : Int) (a : Nat) : lwE (oZ n a) <= 54 := by
 unfold oZ
 split
 ·simp only [lwE, nJ, List.length_nil]; omega
 ·simp only [lwE, nJ, List.length_nil]; omega
theorem J6 (x : Ex) : lwE (lW x) <= lwE x := by
 have hN : ∀ n, 54 <= lwE x -> lwE (fM x n) <= lwE x := fun n h => by
  unfold fM
  split
  ·exact Nat.le_refl _
  ·exact Nat.le_trans (IY _ _) h
 have hl := K9 x
 have hr := LA x
 have two : x.code ≠ 0 -> x.l.code ≠ 0 -> 54 <= lwE x := fun h1 h2 => by
  cases x with
  | nil => exact absurd rfl h1
  | mk c a n op nm l r zs => rw [lwE]; have := zO (x := l) h2; omega
 unfold lW
 split
 ·rename_i h5
  have h1 : 27 <= lwE x := zO (by omega)
  unfold rD dR lK kI
  split
  ·split
   ·split
    ·exact hr
    ·exact hl
   ·split
    ·split
     ·exact hl
     ·exact Nat.le_refl _
    ·exact Nat.le_refl _
  ·split
   ·split
    ·split
     ·exact hr
     ·exact hl
    ·split
     ·split
      ·exact hl
      ·exact Nat.le_refl _
     ·exact Nat.le_refl _
   ·split
    ·split
     ·rename_i a b hka hkb
      split
      ·split
       ·rw [BD]; exact h1
       ·exact hN _ (two (by omega) (jN (by rw [hka]; simp)))
      ·exact Nat.le_refl _
     ·split
      ·exact hl
      ·exact Nat.le_refl _
     ·split
      ·exact hr
      ·exact Nat.le_refl _
     ·exact Nat.le_refl _
    ·exact Nat.le_refl _
 ·split
  ·rename_i h6
   have h1 : 27 <= lwE x := zO (by omega)
   unfold rE
   split
   ·exact Nat.le_refl _
   ·split
    ·rw [BD]; exact h1
    ·split
     ·rename_i n hk
      exact hN _ (two (by omega) (jN (by rw [hk]; simp)))
     ·exact Nat.le_refl _
  ·exact Nat.le_refl _
mutual
theorem iS : ∀ x : Ex, lwE (aI x) <= lwE x
 | .nil => Nat.le_refl _
 | .mk c a n op nm l r zs => by
  have hl := iS l
  have hr := iS r
  have hz := tL zs
  rw [aI]
  refine Nat.le_trans (J6 _) ?_
  rw [lwE, lwE]
  omega
theorem tL : ∀ xs : Exs, nJ (bE xs) <= nJ xs
 | .nil => Nat.le_refl _
 | .cons x xs => by
  have := iS x
  have := tL xs
  rw [bE, nJ, nJ]
  omega
end
mutual
def lwS : Nat -> St -> Nat
 | d, .mk _ _ nm x v t e cs => 6 * d + 48 + nm.length + lwE x + lwE v + j3 (d + 1) t + j3 (d + 1) e + oD d cs
def j3 : Nat -> Sts -> Nat
 | _, .nil => 0
 | d, .cons s ss => lwS d s + j3 d ss
def lwC : Nat -> Ca -> Nat
 | d, .mk _ _ nm x v b => 2 * d + 32 + nm.length + lwE x + lwE v + j3 (d + 1) b
def oD : Nat -> Cas -> Nat
 | _, .nil => 0
 | d, .cons c cs => lwC d c + oD d cs
end
theorem BE {x y : Ex} (hx : bX x) (hy : bX y) : (nD x y).length <= lwE x + (4 + lwE y) := by
 have h1 : (exV 6 x).length <= _ := lT x 6 hx
 have h2 : (exV 1 y).length <= _ := lT y 1 hy
 unfold nD
 simp only [List.length_append, List.length_cons, List.length_nil]
 omega
theorem IZ (code : Nat) (nm : Lx.B) {x y : Ex} (hx : bX x) (hy : bX y) : (gU code nm x y).length <= 20 + nm.length + lwE x + lwE y := by
 have h1 : (exV 6 x).length <= _ := lT x 6 hx
 have h2 := BE hx hy
 unfold gU
 split
 ·simp only [List.length_append, oP, List.length_cons, List.length_nil]; omega
 ·split
  ·split
   ·simp only [List.length_append, jH, List.length_cons, List.length_nil]; omega
   ·simp only [List.length_append, oP, nE, List.length_cons, List.length_nil]; omega
  ·simp only [qK, List.length_cons, List.length_nil]; omega
theorem I0 (d : Nat) {v : Ex} (hv : bX v) : (kY d v).length <= 2 * d + 8 + lwE v := by
 have h2 : (exV 1 v).length <= _ := lT v 1 hv
 unfold kY
 split
 ·rw [aE]; simp only [kX, List.length_cons, List.length_nil]; omega
 ·rw [aE]; simp only [pC, List.length_append, List.length_cons, List.length_nil]; omega
mutual
theorem KQ : ∀ (s : St) (d : Nat), rI s -> (stV d s).length <= lwS d s
 | .mk c a nm x v t e cs, d, h => by
  obtain ⟨h1, h2, h3, h4, h5⟩ := h
  have k2 : (exV 1 v).length <= _ := lT v 1 h2
  have ks := BE h1 h2
  have kg := I0 d h2
  have k3 := qV t (d + 1) h3
  have k4 := qV e (d + 1) h4
  have k5 := F6 cs d h5
  have he : (if e.len = 0 then [] else a8 d tB ++ eB (d + 1) e).length <= 2 * d + 9 + j3 (d + 1) e := by
   split
   ·exact Nat.zero_le _
   ·rw [List.length_append, aE]; simp only [tB, List.length_cons, List.length_nil]; omega
  have q1 : IL.length = 4 := rfl
  have q2 : IM.length = 3 := rfl
  have q3 : uV.length = 6 := rfl
  have q4 : cRp.length = 1 := rfl
  have q5 : uW.length = 6 := rfl
  have q6 : uX.length = 6 := rfl
  have q7 : cGo.length = 3 := rfl
  have q8 : uY.length = 5 := rfl
  have q9 : lF.length = 8 := rfl
  have r1 : cIf.length = 3 := rfl
  have r2 : oO.length = 2 := rfl
  have r3 : iO9.length = 4 := rfl
  have r4 : mH.length = 1 := rfl
  have r5 : pD.length = 8 := rfl
  rw [stV, lwS]
  generalize (if e.len = 0 then [] else a8 d tB ++ eB (d + 1) e) = X at *
  generalize kY d v = Y at *
  generalize nD x v = Z at *
  by_cases c1 : c = 1
  ·rw [if_pos c1]
   (try simp only [List.length_append, aE])
   omega
  rw [if_neg c1]
  by_cases c2 : c = 2
  ·rw [if_pos c2]
   (try simp only [List.length_append, aE])
   omega
  rw [if_neg c2]
  by_cases c3 : c = 3
  ·rw [if_pos c3, aE]
   omega
  rw [if_neg c3]
  by_cases c4 : c = 4
  ·rw [if_pos c4]
   (try simp only [List.length_append, aE])
   omega
  rw [if_neg c4]
  by_cases c5 : c = 5
  ·rw [if_pos c5]
   (try simp only [List.length_append, aE])
   omega
  rw [if_neg c5]
  by_cases c6 : c = 6
  ·rw [if_pos c6]
   (try simp only [List.length_append, aE])
   omega
  rw [if_neg c6]
  by_cases c7 : c = 7
  ·rw [if_pos c7]
   (try simp only [List.length_append, aE])
   omega
  rw [if_neg c7]
  by_cases c8 : c = 8
  ·rw [if_pos c8]
   omega
  rw [if_neg c8]
  by_cases c9 : c = 9
  ·rw [if_pos c9, aE]
   omega
  rw [if_neg c9]
  by_cases c10 : c = 10
  ·rw [if_pos c10, aE]
   omega
  rw [if_neg c10]
  by_cases c11 : c = 11
  ·rw [if_pos c11, aE]
   omega
  rw [if_neg c11]
  by_cases c12 : c = 12
  ·rw [if_pos c12]
   (try simp only [List.length_append, aE])
   omega
  rw [if_neg c12]
  by_cases c13 : c = 13
  ·rw [if_pos c13]
   (try simp only [List.length_append, aE])
   omega
  rw [if_neg c13]
  by_cases c14 : c = 14
  ·rw [if_pos c14]
   (try simp only [List.length_append, aE])
   omega
  rw [if_neg c14]
  rw [List.length_nil]; omega
theorem qV : ∀ (ss : Sts) (d : Nat), fQ ss -> (eB d ss).length <= j3 d ss
 | .nil, _, _ => Nat.zero_le _
 | .cons s ss, d, h => by
  have k1 := KQ s d h.1
  have k2 := qV ss d h.2
  rw [eB, j3, List.length_append]
  omega
theorem KR : ∀ (s : Ca) (d : Nat), yJ s -> (caV d s).length <= lwC d s
 | .mk c a nm x v b, d, h => by
  obtain ⟨h1, h2, h3⟩ := h
  have k1 := IZ c nm h1 h2
  have k2 := qV b (d + 1) h3
  rw [caV, lwC, List.length_append, aE]
  simp only [qL, List.length_append, List.length_cons, List.length_nil]
  omega
theorem F6 : ∀ (ss : Cas) (d : Nat), mV ss -> (kD d ss).length <= oD d ss
 | .nil, _, _ => Nat.zero_le _
 | .cons s ss, d, h => by
  have k1 := KR s d h.1
  have k2 := F6 ss d h.2
  rw [kD, oD, List.length_append]
  omega
end
theorem J7 (d : Nat) : ∀ s y : St, rF s = some y -> lwS d y <= lwS d s
 | .mk c a nm x v t e cs, y, h => by
  have h0 : ∀ d, j3 d .nil = 0 := fun d => by rw [j3]
  rw [k9] at h
  split at h
  ·obtain rfl := Option.some.inj h; exact Nat.le_refl _
  ·split at h
   ·split at h
    ·obtain rfl := Option.some.inj h; exact Nat.le_refl _
    ·cases h
   ·split at h
    ·split at h
     ·obtain rfl := Option.some.inj h
      rw [lwS, lwS, h0]; omega
     ·cases h
    ·split at h
     ·split at h
      ·obtain rfl := Option.some.inj h
       rw [lwS, lwS, h0]; omega
      ·cases h
     ·obtain rfl := Option.some.inj h; exact Nat.le_refl _
mutual
theorem F7 : ∀ (s : St) (d : Nat) (y : St), eL s = some y -> lwS d y <= lwS d s
 | .mk c a nm x v t e cs, d, y, h => by
  rw [eL] at h
  refine Nat.le_trans (J7 d _ _ h) ?_
  have h1 := iS x
  have h2 := iS v
  have h3 := jI t (d + 1)
  have h4 := jI e (d + 1)
  have h5 := tM cs d
  rw [lwS, lwS]
  omega
theorem jI : ∀ (ss : Sts) (d : Nat), j3 d (aD ss) <= j3 d ss
 | .nil, _ => by rw [aD]; exact Nat.le_refl _
 | .cons s ss, d => by
  have hs := F7 s d
  have hss := jI ss d
  rw [aD]
  split
  ·rename_i y hy
   have := hs y hy
   rw [j3, j3]; omega
  ·rw [j3]; omega
theorem F8 : ∀ (c : Ca) (d : Nat), lwC d (gR c) <= lwC d c
 | .mk c a nm x v b, d => by
  have h1 := iS x
  have h2 := iS v
  have h3 := jI b (d + 1)
  rw [gR, lwC, lwC]; omega
theorem tM : ∀ (cs : Cas) (d : Nat), oD d (bC cs) <= oD d cs
 | .nil, _ => by rw [bC]; exact Nat.le_refl _
 | .cons c cs, d => by
  have h1 := F8 c d
  have h2 := tM cs d
  rw [bC, oD, oD]; omega
end
end Go.Proofs.YtnpapppipccdbaaGreatDoor
namespace Go.Proofs.YtnpapppipccdbaaGreatDoor
namespace Tr
open Lx
structure WordT (k : Nat) (t : B) : Prop where
 whole : aZ t = t.length
 letter : 0 < bQ t
 kind : k = if jK t then 2 else 1
 short : k = 1 -> t.length <= 12
theorem WordT.ne {k : Nat} {t : B} (h : WordT k t) : t ≠ [] := fun e => by
 have := h.letter
 rw [e] at this
 exact absurd this (by decide)
structure NumT (t : B) : Prop where
 digits : i8 t = t.length
 pos : t ≠ []
 zero : 1 < t.length -> t.head? ≠ some 48
 small : dP t <= 9223372036854775807
theorem F9 (d : Nat) (h : d < 10) : cE (UInt8.ofNat (48 + d)) = true /\ (UInt8.ofNat (48 + d)).toNat - 48 = d := by
 have : ∀ d, d < 10 -> cE (UInt8.ofNat (48 + d)) = true /\ (UInt8.ofNat (48 + d)).toNat - 48 = d := by decide
 exact this d h
end Tr
end Go.Proofs.YtnpapppipccdbaaGreatDoor
namespace Go.Proofs.YtnpapppipccdbaaGreatDoor
open Lx Tr
namespace Tr
theorem DS (l : B) (c : UInt8) : dP (l ++ [c]) = dP l * 10 + (c.toNat - 48) := by
 unfold dP
 rw [List.foldl_append]
 rfl
theorem xU : ∀ {l : B}, (∀ c ∈ l, cE c = true) -> i8 l = l.length
 | [], _ => rfl
 | c :: r, h => by rw [nM (h c (List.mem_cons_self ..)), xU (fun x hx => h x (List.mem_cons_of_mem _ hx)), List.length_cons]
theorem I1 (k : Nat) : ∀ n, n <= k -> (∀ c ∈ Lib.decDigits n, cE c = true) /\ Lib.decDigits n ≠ [] /\ dP (Lib.decDigits n) = n /\ (10 <= n -> (Lib.decDigits n).head? ≠ some 48 /\ 1 < (Lib.decDigits n).length) /\ (n < 10 -> (Lib.decDigits n).length = 1) /\ (0 < n -> (Lib.decDigits n).head? ≠ some 48) := by
 induction k with
 | zero =>
  intro n hn
  obtain rfl : n = 0 := by omega
  rw [Lib.decDigits, dif_pos (by decide)]
  refine ⟨fun c hc => ?_, by simp, by decide, fun h => absurd h (by decide), fun _ => rfl, fun h => absurd h (by decide)⟩
  rw [List.mem_singleton.1 hc]
  decide
 | succ k ih =>
  intro n hn
  by_cases h : n < 10
  ·rw [Lib.decDigits, dif_pos h]
   obtain ⟨q1, q2⟩ := F9 n h
   refine ⟨fun c hc => ?_, by simp, ?_, fun h2 => absurd h2 (by omega), fun _ => rfl, fun h2 e => ?_⟩
   ·rw [List.mem_singleton.1 hc]; exact q1
   ·show 0 * 10 + ((UInt8.ofNat (48 + n)).toNat - 48) = n
    rw [q2]; omega
   ·have e2 : UInt8.ofNat (48 + n) = 48 := Option.some.inj e
    have e3 : (UInt8.ofNat (48 + n)).toNat - 48 = 0 := by rw [e2]; rfl
    omega
  ·rw [Lib.decDigits, dif_neg h]
   obtain ⟨a1, a2, a3, a4, a5, a6⟩ := ih (n / 10) (by omega)
   obtain ⟨q1, q2⟩ := F9 (n % 10) (by omega)
   have hh : (Lib.decDigits (n / 10) ++ [UInt8.ofNat (48 + n % 10)]).head? = (Lib.decDigits (n / 10)).head? := by
    cases hq : Lib.decDigits (n / 10) with
    | nil => exact absurd hq a2
    | cons x xs => rfl
   have hlen : 0 < (Lib.decDigits (n / 10)).length := List.length_pos_iff.2 a2
   refine ⟨fun c hc => ?_, by simp, ?_, fun _ => ⟨by rw [hh]; exact a6 (by omega), by rw [List.length_append]; simp; omega⟩, fun h2 => absurd h2 (by omega), fun _ => by rw [hh]; exact a6 (by omega)⟩
   ·rcases List.mem_append.1 hc with hc | hc
    ·exact a1 c hc
    ·rw [List.mem_singleton.1 hc]; exact q1
   ·rw [DS, a3, q2]; omega
theorem J8 (n : Nat) (h : n <= 9223372036854775807) : NumT (jX n) /\ dP (jX n) = n := by
 have e : jX n = Lib.decDigits n := by
  unfold jX Lib.itoa
  rw [if_neg (by omega)]
  rfl
 obtain ⟨a1, a2, a3, a4, a5, a6⟩ := I1 n n (Nat.le_refl _)
 rw [e]
 refine ⟨⟨xU a1, a2, fun h1 => ?_, by rw [a3]; exact h⟩, a3⟩
 by_cases h2 : n < 10
 ·rw [a5 h2] at h1; exact absurd h1 (by decide)
 ·exact (a4 (by omega)).1
def brk (least : Nat) (x : Ex) : Nat := match x with
 | .nil => 0
 | .mk code _ _ op _ _ _ _ => if code = 5 /\ bL op < least then 1 else 0
mutual
def bF : Ex -> Nat -> Prop
 | .nil, _ => False
 | .mk code _ n op nm l r zs, d => d <= 12 /\ (
  (code = 1 /\ n <= 9223372036854775807 /\ op = 0 /\ nm = [] /\ l = .nil /\ r = .nil /\ zs = .nil) ∨
  (code = 2 /\ n <= 1 /\ op = 0 /\ nm = [] /\ l = .nil /\ r = .nil /\ zs = .nil) ∨
  (code = 3 /\ n = 0 /\ op = 0 /\ nm = [] /\ l = .nil /\ r = .nil /\ zs = .nil) ∨
  (code = 4 /\ n = 0 /\ op = 0 /\ WordT 1 nm /\ l = .nil /\ r = .nil /\ zs = .nil) ∨
  (code = 5 /\ n = 0 /\ nm = [] /\ zs = .nil /\ 1 <= bL op /\ bF l (d + brk (bL op) l) /\ bF r (d + brk (bL op + 1) r)) ∨
  (code = 6 /\ n = 0 /\ nm = [] /\ r = .nil /\ zs = .nil /\ (op = 17 \/ op = 18 \/ op = 19) /\ bF l (d + 1 + brk 6 l)) ∨
  (code = 10 /\ n = 0 /\ op = 0 /\ nm = [] /\ r = .nil /\ zs = .nil /\ bF l (d + 1 + brk 6 l)) ∨
  ((code = 8 \/ code = 9) /\ n = 0 /\ op = 0 /\ nm = [] /\ r = .nil /\ zs = .nil /\ bF l (d + 1)) ∨
  (code = 7 /\ n = 0 /\ op = 0 /\ WordT 1 nm /\ l = .nil /\ r = .nil /\ dJ zs (d + 1)))
def dJ : Exs -> Nat -> Prop
 | .nil, _ => True
 | .cons x xs, d => bF x d /\ dJ xs d
end
theorem u7 {least code a n op : Nat} {nm : B} {l r : Ex} {zs : Exs} (h : code = 5 /\ bL op < least) : brk least (.mk code a n op nm l r zs) = 1 := if_pos h
theorem iZ {least code a n op : Nat} {nm : B} {l r : Ex} {zs : Exs} (h : ¬ (code = 5 /\ bL op < least)) : brk least (.mk code a n op nm l r zs) = 0 := if_neg h
def eE (x : Ex) (d : Nat) : Prop := bF x (d + brk 6 x)
mutual
def eJ : St -> Nat -> Prop
 | .mk code _ name dst val thn els cases, dep =>
  ((code = 1 \/ code = 2) /\ WordT 1 name /\ dst = .nil /\ bF val 0 /\ thn = .nil /\ els = .nil /\ cases = .nil) ∨
  (code = 3 /\ name = [] /\ eE dst 0 /\ bF val 0 /\ thn = .nil /\ els = .nil /\ cases = .nil) ∨
  (code = 4 /\ name = [] /\ dst = .nil /\ bF val 1 /\ thn = .nil /\ els = .nil /\ cases = .nil) ∨
  ((code = 5 \/ code = 6) /\ name = [] /\ dst = .nil /\ bF val 0 /\ thn = .nil /\ els = .nil /\ cases = .nil) ∨
  (code = 7 /\ name = [] /\ dst = .nil /\ bF val 0 /\ codeOf val = 7 /\ thn = .nil /\ els = .nil /\ cases = .nil) ∨
  (code = 8 /\ name = [] /\ dst = .nil /\ (val = .nil \/ bF val 0) /\ thn = .nil /\ els = .nil /\ cases = .nil) ∨
  ((code = 9 \/ code = 10) /\ name = [] /\ dst = .nil /\ val = .nil /\ thn = .nil /\ els = .nil /\ cases = .nil) ∨
  (code = 11 /\ name = [] /\ dst = .nil /\ bF val 0 /\ (codeOf val = 7 \/ codeOf val = 10) /\ thn = .nil /\ els = .nil /\ cases = .nil) ∨
  (code = 12 /\ name = [] /\ dst = .nil /\ bF val 0 /\ dep < 12 /\ dK thn (dep + 1) /\ dK els (dep + 1) /\ cases = .nil) ∨
  (code = 13 /\ name = [] /\ dst = .nil /\ bF val 0 /\ dep < 12 /\ dK thn (dep + 1) /\ els = .nil /\ cases = .nil) ∨
  (code = 14 /\ name = [] /\ dst = .nil /\ val = .nil /\ thn = .nil /\ els = .nil /\ dep < 12 /\ cases.len <= 6 /\ fU cases (dep + 1))
def dK : Sts -> Nat -> Prop
 | .nil, _ => True
 | .cons x xs, dep => eJ x dep /\ dK xs dep
def qW : Ca -> Nat -> Prop
 | .mk code _ name dst val body, dep =>
  ((code = 3 /\ name = [] /\ eE dst 0 /\ bF val 0) \/ (code = 10 /\ name = [] /\ eE dst 1 /\ val = .nil) \/ (code = 10 /\ WordT 1 name /\ eE dst 0 /\ val = .nil) \/ (code = 40 /\ name = [] /\ dst = .nil /\ val = .nil)) /\ dK body dep
def fU : Cas -> Nat -> Prop
 | .nil, _ => True
 | .cons x xs, dep => qW x dep /\ fU xs dep
end
theorem Cas.len_snocT : ∀ (xs : Cas) (y : Ca), (xs.snoc y).len = xs.len + 1
 | .nil, _ => rfl
 | .cons _ xs, y => congrArg (· + 1) (Cas.len_snocT xs y)
def BF (p : Pa) : Prop := WordT 1 p.name /\ 1 <= p.kind /\ p.kind <= 3
structure GoodF (g : Fu) : Prop where
 name : WordT 1 g.name
 params : ∀ p ∈ g.params, BF p
 kind : g.kind <= 3
 body : dK g.body 1
structure GoodSrc (s : Src) : Prop where
 gls : ∀ g ∈ s.globals, WordT 1 g.name
 fus : ∀ g ∈ s.funcs, GoodF g
 ng : s.globals.length <= 8
 nf : s.funcs.length <= 12
theorem J9 (k : Nat) (x : Ex) : brk k x <= brk (k + 1) x := by
 cases x with
 | nil => exact Nat.le_refl _
 | mk code a n op nm l r zs =>
  by_cases c : code = 5 /\ bL op < k
  ·rw [u7 c, u7 ⟨c.1, by have := c.2; omega⟩]; exact Nat.le_refl _
  ·rw [iZ c]; exact Nat.zero_le _
mutual
theorem cX : ∀ (x : Ex) (d e : Nat), e <= d -> bF x d -> bF x e
 | .nil, _, _, _, h => by rw [bF] at h; exact h.elim
 | .mk code a n op nm l r zs, d, e, he, h => by
  rw [bF] at h ⊢
  obtain ⟨hd, h⟩ := h
  refine ⟨by omega, ?_⟩
  rcases h with h | h | h | h | ⟨c, h0, h1, h2, hv, h3, h4⟩ | ⟨c, h0, h1, h2, h3, ho, h4⟩ | ⟨c, h0, h1, h2, h3, h4, h5⟩ | ⟨c, h0, h1, h2, h3, h4, h5⟩ | ⟨c, h0, h1, hw, h3, h4, h5⟩
  ·exact Or.inl h
  ·exact Or.inr (Or.inl h)
  ·exact Or.inr (Or.inr (Or.inl h))
  ·exact Or.inr (Or.inr (Or.inr (Or.inl h)))
  ·exact Or.inr (Or.inr (Or.inr (Or.inr (Or.inl ⟨c, h0, h1, h2, hv, cX l _ _ (by omega) h3, cX r _ _ (by omega) h4⟩))))
  ·exact Or.inr (Or.inr (Or.inr (Or.inr (Or.inr (Or.inl ⟨c, h0, h1, h2, h3, ho, cX l _ _ (by omega) h4⟩)))))
  ·exact Or.inr (Or.inr (Or.inr (Or.inr (Or.inr (Or.inr (Or.inl ⟨c, h0, h1, h2, h3, h4, cX l _ _ (by omega) h5⟩))))))
  ·exact Or.inr (Or.inr (Or.inr (Or.inr (Or.inr (Or.inr (Or.inr (Or.inl ⟨c, h0, h1, h2, h3, h4, cX l _ _ (by omega) h5⟩)))))))
  ·exact Or.inr (Or.inr (Or.inr (Or.inr (Or.inr (Or.inr (Or.inr (Or.inr ⟨c, h0, h1, hw, h3, h4, qX zs _ _ (by omega) h5⟩)))))))
theorem qX : ∀ (zs : Exs) (d e : Nat), e <= d -> dJ zs d -> dJ zs e
 | .nil, _, _, _, _ => by rw [dJ]; trivial
 | .cons x xs, d, e, he, h => by
  rw [dJ] at h ⊢
  exact ⟨cX x d e he h.1, qX xs d e he h.2⟩
end
structure TokOk (E : Env) : Prop where
 words : ∀ n, (pk E n).kind = 1 -> WordT 1 (pk E n).text
 nums : ∀ n, (pk E n).kind = 3 -> dP (pk E n).text <= 9223372036854775807
theorem oR : ∀ (xs : Exs) (y : Ex) (d : Nat), dJ xs d -> bF y d -> dJ (xs.snoc y) d
 | .nil, y, d, _, h => by rw [Exs.snoc, dJ, dJ]; exact ⟨h, trivial⟩
 | .cons x xs, y, d, h, h2 => by
  rw [dJ] at h
  rw [Exs.snoc, dJ]
  exact ⟨h.1, oR xs y d h.2 h2⟩
theorem jJ {E : Env} {code k d n : Nat} {nm : B} (hd : d <= 12) (h : (code = 1 /\ k <= 9223372036854775807 /\ nm = []) \/ (code = 2 /\ k <= 1 /\ nm = []) \/ (code = 3 /\ k = 0 /\ nm = []) \/ (code = 4 /\ k = 0 /\ WordT 1 nm)) : eE (leaf code (pk E n).at_ k nm) d := by
 unfold eE leaf
 rw [iZ (by rintro ⟨e, _⟩; rcases h with h | h | h | h <;> omega), bF]
 refine ⟨hd, ?_⟩
 rcases h with ⟨rfl, h1, rfl⟩ | ⟨rfl, h1, rfl⟩ | ⟨rfl, rfl, rfl⟩ | ⟨rfl, rfl, hw⟩
 ·exact Or.inl ⟨rfl, h1, rfl, rfl, rfl, rfl, rfl⟩
 ·exact Or.inr (Or.inl ⟨rfl, h1, rfl, rfl, rfl, rfl, rfl⟩)
 ·exact Or.inr (Or.inr (Or.inl ⟨rfl, rfl, rfl, rfl, rfl, rfl, rfl⟩))
 ·exact Or.inr (Or.inr (Or.inr (Or.inl ⟨rfl, rfl, rfl, hw, rfl, rfl, rfl⟩)))
structure Gds (E : Env) (f : Nat) : Prop where
 one : ∀ d n x m, one E f d n = .ok x m -> eE x d
 bracketed : ∀ d n x m, bracketed E f d n = .ok x m -> bF x (d + 1)
 tied : ∀ l d n x m, 1 <= l -> l <= 6 -> tied E f l d n = .ok x m -> bF x (d + brk l x)
 tloop : ∀ l d a n x m, 1 <= l -> l <= 5 -> tloop E f l d a n = .ok x m -> bF a (d + brk l a) -> bF x (d + brk l x)
 named : ∀ d n x m, d <= 12 -> (pk E n).kind = 1 -> named E f d n = .ok x m -> eE x d
 call : ∀ d t n x m, d <= 12 -> WordT 1 t.text -> call E f d t n = .ok x m -> eE x d /\ codeOf x = 7
 args : ∀ d a n x m, args E f d a n = .ok x m -> dJ a (d + 1) -> dJ x (d + 1)
theorem gds {E : Env} (hT : TokOk E) (f : Nat) : Gds E f := by
 induction f with
 | zero =>
  constructor
  ·intro _ _ _ _ h; rw [Tr.one] at h; cases h
  ·intro _ _ _ _ h; rw [Tr.bracketed] at h; cases h
  ·intro _ _ _ _ _ _ _ h; rw [Tr.tied] at h; cases h
  ·intro _ _ _ _ _ _ _ _ h; rw [Tr.tloop] at h; cases h
  ·intro _ _ _ _ _ _ h; rw [Tr.named] at h; cases h
  ·intro _ _ _ _ _ _ _ h; rw [Tr.call] at h; cases h
  ·intro _ _ _ _ _ h; rw [Tr.args] at h; cases h
 | succ f ih =>
  constructor
  ·intro d n x m h
   rw [Tr.one] at h
   by_cases c0 : 12 < d
   ·rw [if_pos c0] at h; exact (aN h).elim
   rw [if_neg c0] at h
   have hd : d <= 12 := by omega
   by_cases c1 : (pk E n).kind = 3
   ·rw [if_pos c1] at h
    cases h
    exact jJ hd (Or.inl ⟨rfl, hT.nums n c1, rfl⟩)
   rw [if_neg c1] at h
   by_cases c2 : (pk E n).kind = 1
   ·rw [if_pos c2] at h
    exact ih.named _ _ _ _ hd c2 h
   rw [if_neg c2] at h
   by_cases c3 : (pk E n).text = tLp
   ·rw [if_pos c3] at h
    have q := ih.bracketed _ _ _ _ h
    refine cX x (d + 1) _ ?_ q
    cases x with
    | nil => exact Nat.le_succ _
    | mk code a k op nm l r zs =>
     by_cases c : code = 5 /\ bL op < 6
     ·rw [u7 c]; exact Nat.le_refl _
     ·rw [iZ c]; exact Nat.le_succ _
   rw [if_neg c3] at h
   by_cases c4 : (pk E n).text = [45] \/ (pk E n).text = [94] \/ (pk E n).text = [33]
   ·rw [if_pos c4] at h
    obtain ⟨y, n1, h1, h⟩ := aA h
    cases h
    unfold eE
    rw [iZ (fun e => by cases e.1), bF]
    exact ⟨hd, Or.inr (Or.inr (Or.inr (Or.inr (Or.inr (Or.inl ⟨rfl, rfl, rfl, rfl, rfl, by rcases c4 with e | e | e <;> rw [e] <;> decide, ih.one _ _ _ _ h1⟩)))))⟩
   rw [if_neg c4] at h
   by_cases c5 : (pk E n).text = aK
   ·rw [if_pos c5] at h
    obtain ⟨y, n1, h1, h⟩ := aA h
    cases h
    unfold eE
    rw [iZ (fun e => by cases e.1), bF]
    exact ⟨hd, Or.inr (Or.inr (Or.inr (Or.inr (Or.inr (Or.inr (Or.inl ⟨rfl, rfl, rfl, rfl, rfl, rfl, ih.one _ _ _ _ h1⟩))))))⟩
   rw [if_neg c5] at h
   by_cases c6 : (pk E n).text = dQ
   ·rw [if_pos c6] at h
    obtain ⟨y, n1, h1, h⟩ := aA h
    cases h
    unfold eE
    rw [iZ (fun e => by cases e.1), bF]
    exact ⟨hd, Or.inr (Or.inr (Or.inr (Or.inr (Or.inr (Or.inr (Or.inr (Or.inl ⟨Or.inl rfl, rfl, rfl, rfl, rfl, rfl, ih.bracketed _ _ _ _ h1⟩)))))))⟩
   rw [if_neg c6] at h
   by_cases c7 : (pk E n).text = hY
   ·rw [if_pos c7] at h
    obtain ⟨y, n1, h1, h⟩ := aA h
    cases h
    unfold eE
    rw [iZ (fun e => by cases e.1), bF]
    exact ⟨hd, Or.inr (Or.inr (Or.inr (Or.inr (Or.inr (Or.inr (Or.inr (Or.inl ⟨Or.inr rfl, rfl, rfl, rfl, rfl, rfl, ih.bracketed _ _ _ _ h1⟩)))))))⟩
   rw [if_neg c7] at h
   by_cases c8 : (pk E n).text = eK
   ·rw [if_pos c8] at h
    cases h
    exact jJ hd (Or.inr (Or.inl ⟨rfl, by omega, rfl⟩))
   rw [if_neg c8] at h
   by_cases c9 : (pk E n).text = cP
   ·rw [if_pos c9] at h
    cases h
    exact jJ hd (Or.inr (Or.inl ⟨rfl, by omega, rfl⟩))
   rw [if_neg c9] at h
   by_cases c10 : (pk E n).text = hZ
   ·rw [if_pos c10] at h
    cases h
    exact jJ hd (Or.inr (Or.inr (Or.inl ⟨rfl, rfl, rfl⟩)))
   rw [if_neg c10] at h
   exact (aN h).elim
  ·intro d n x m h
   rw [bU] at h
   obtain ⟨_, n1, h1, h⟩ := aA h
   obtain ⟨y, n2, h2, h⟩ := aA h
   obtain ⟨_, n3, h3, h⟩ := aA h
   cases h
   exact cX _ _ _ (Nat.le_add_right _ _) (ih.tied _ _ _ _ _ (by decide) (by decide) h2)
  ·intro l d n x m hl1 hl6 h
   rw [iA] at h
   by_cases c : l = 6
   ·rw [if_pos c] at h
    rw [c]
    exact ih.one _ _ _ _ h
   ·rw [if_neg c] at h
    obtain ⟨y, n1, h1, h⟩ := aA h
    exact ih.tloop _ _ _ _ _ _ hl1 (by omega) h (cX _ _ _ (Nat.add_le_add_left (J9 l y) d) (ih.tied _ _ _ _ _ (by omega) (by omega) h1))
  ·intro l d a n x m hl1 hl5 h ha
   rw [gM] at h
   by_cases c : bL (opV (pk E n).text) = l
   ·rw [if_pos c] at h
    obtain ⟨y, n1, h1, h⟩ := aA h
    have q := ih.tied _ _ _ _ _ (by omega) (by omega) h1
    refine ih.tloop _ _ _ _ _ _ hl1 hl5 h ?_
    have hd : d <= 12 := by
     cases a with
     | nil => rw [bF] at ha; exact ha.elim
     | mk => rw [bF] at ha; have := ha.1; omega
    rw [iZ (fun e => by have := e.2; omega), bF]
    exact ⟨hd, Or.inr (Or.inr (Or.inr (Or.inr (Or.inl ⟨rfl, rfl, rfl, rfl, by omega, by rw [c]; exact ha, by rw [c]; exact q⟩))))⟩
   ·rw [if_neg c] at h
    cases h
    exact ha
  ·intro d n x m hd hk h
   rw [gN] at h
   by_cases c : (pk E (n + 1)).text = tLp
   ·rw [if_pos c] at h
    exact (ih.call _ _ _ _ _ hd (hT.words n hk) h).1
   ·rw [if_neg c] at h
    cases h
    exact jJ hd (Or.inr (Or.inr (Or.inr ⟨rfl, rfl, hT.words n hk⟩)))
  ·intro d t n x m hd ht h
   rw [iB] at h
   obtain ⟨_, n1, h1, h⟩ := aA h
   have key : ∀ zs, dJ zs (d + 1) -> eE (.mk 7 t.at_ 0 0 t.text .nil .nil zs) d := fun zs hz => by
    unfold eE
    rw [iZ (fun e => by cases e.1), bF]
    exact ⟨hd, Or.inr (Or.inr (Or.inr (Or.inr (Or.inr (Or.inr (Or.inr (Or.inr ⟨rfl, rfl, rfl, ht, rfl, rfl, hz⟩)))))))⟩
   by_cases c : (pk E n1).text = tRp
   ·rw [if_pos c] at h
    cases h
    exact ⟨key .nil (by rw [dJ]; trivial), rfl⟩
   ·rw [if_neg c] at h
    obtain ⟨y, n2, h2, h⟩ := aA h
    cases h
    exact ⟨key _ (ih.args _ _ _ _ _ h2 (by rw [dJ]; trivial)), rfl⟩
  ·intro d a n x m h ha
   rw [jL] at h
   obtain ⟨y, n1, h1, h⟩ := aA h
   have q := oR _ _ _ ha (cX _ _ _ (Nat.le_add_right _ _) (ih.tied _ _ _ _ _ (by decide) (by decide) h1))
   by_cases c : (pk E n1).text = bY
   ·rw [if_pos c] at h
    exact ih.args _ _ _ _ _ h q
   ·rw [if_neg c] at h
    obtain ⟨_, n2, h2, h⟩ := aA h
    cases h
    exact q
theorem dO {E : Env} (hT : TokOk E) {f d n m : Nat} {x : Ex} (h : dC E f d n = .ok x m) : bF x d := cX _ _ _ (Nat.le_add_right _ _) ((gds hT f).tied _ _ _ _ _ (by decide) (by decide) h)
theorem oS : ∀ (xs : Sts) (y : St) (d : Nat), dK xs d -> eJ y d -> dK (xs.snoc y) d
 | .nil, y, d, _, h => by rw [Sts.snoc, dK, dK]; exact ⟨h, trivial⟩
 | .cons x xs, y, d, h, h2 => by
  rw [dK] at h
  rw [Sts.snoc, dK]
  exact ⟨h.1, oS xs y d h.2 h2⟩
theorem oT : ∀ (xs : Cas) (y : Ca) (d : Nat), fU xs d -> qW y d -> fU (xs.snoc y) d
 | .nil, y, d, _, h => by rw [Cas.snoc, fU, fU]; exact ⟨h, trivial⟩
 | .cons x xs, y, d, h, h2 => by
  rw [fU] at h
  rw [Cas.snoc, fU]
  exact ⟨h.1, oT xs y d h.2 h2⟩
theorem j4 (d : Nat) : dK .nil d := by rw [dK]; trivial
theorem zP (d : Nat) : fU .nil d := by rw [fU]; trivial
theorem GA {x : Ex} (h : codeOf x = 7 \/ codeOf x = 10) : brk 6 x = 0 := by
 cases x with
 | nil => rfl
 | mk code a k op nm l r zs =>
  refine iZ ?_
  rintro ⟨rfl, _⟩
  rcases h with h | h <;> cases h
theorem mK {x : Ex} {d : Nat} (hg : eE x d) (h : codeOf x = 7 \/ codeOf x = 10) : bF x d := by
 unfold eE at hg
 rw [GA h] at hg
 exact hg
theorem zQ {x : Ex} {d : Nat} (hg : eE x d) (h : codeOf x = 10) : eE (leftOf x) (d + 1) := by
 have hb := mK hg (Or.inr h)
 cases x with
 | nil => cases h
 | mk code a k op nm l r zs =>
  have hc : code = 10 := h
  subst hc
  rw [bF] at hb
  obtain ⟨_, hb⟩ := hb
  rcases hb with ⟨h, _⟩ | ⟨h, _⟩ | ⟨h, _⟩ | ⟨h, _⟩ | ⟨h, _⟩ | ⟨h, _⟩ | ⟨_, _, _, _, _, _, h⟩ | ⟨h, _⟩ | ⟨h, _⟩
  ·cases h
  ·cases h
  ·cases h
  ·cases h
  ·cases h
  ·cases h
  ·exact h
  ·rcases h with h | h <;> cases h
  ·cases h
theorem zR {E : Env} (hT : TokOk E) {f n m dep : Nat} {s : St} (h : cJ E f n = .ok s m) : eJ s dep := by
 unfold cJ at h
 by_cases c1 : (pk E n).kind = 1 /\ (pk E (n + 1)).text = hU
 ·rw [if_pos c1] at h
  obtain ⟨y, n1, h1, h⟩ := aA h
  cases h
  unfold stz
  rw [eJ]
  exact Or.inl ⟨Or.inl rfl, hT.words n c1.1, rfl, dO hT h1, rfl, rfl, rfl⟩
 rw [if_neg c1] at h
 by_cases c2 : (pk E n).kind = 1 /\ (pk E (n + 1)).text = pI
 ·rw [if_pos c2] at h
  obtain ⟨y, n1, h1, h⟩ := aA h
  cases h
  unfold stz
  rw [eJ]
  exact Or.inl ⟨Or.inr rfl, hT.words n c2.1, rfl, dO hT h1, rfl, rfl, rfl⟩
 rw [if_neg c2] at h
 obtain ⟨y, n1, h1, h⟩ := aA h
 have q := (gds hT f).one _ _ _ _ h1
 by_cases c3 : (pk E n1).text = aK
 ·rw [if_pos c3] at h
  obtain ⟨z, n2, h2, h⟩ := aA h
  cases h
  unfold stz
  rw [eJ]
  exact Or.inr (Or.inl ⟨rfl, rfl, q, dO hT h2, rfl, rfl, rfl⟩)
 rw [if_neg c3] at h
 by_cases c4 : codeOf y = 7 \/ codeOf y = 10
 ·rw [if_pos c4] at h
  cases h
  unfold stz
  rw [eJ]
  exact Or.inr (Or.inr (Or.inr (Or.inr (Or.inr (Or.inr (Or.inr (Or.inl ⟨rfl, rfl, rfl, mK q c4, c4, rfl, rfl, rfl⟩)))))))
 rw [if_neg c4] at h
 exact (aN h).elim
def KS (t : Nat × B × Ex × Ex) : Prop := (t.1 = 3 /\ t.2.1 = [] /\ eE t.2.2.1 0 /\ bF t.2.2.2 0) \/ (t.1 = 10 /\ t.2.1 = [] /\ eE t.2.2.1 1 /\ t.2.2.2 = .nil) \/ (t.1 = 10 /\ WordT 1 t.2.1 /\ eE t.2.2.1 0 /\ t.2.2.2 = .nil)
theorem DT {E : Env} (hT : TokOk E) {f n m : Nat} {s : Nat × B × Ex × Ex} (h : gL E f n = .ok s m) : KS s := by
 unfold gL at h
 by_cases c1 : (pk E n).kind = 1 /\ (pk E (n + 1)).text = hU
 ·rw [if_pos c1] at h
  obtain ⟨_, n0, h0, h⟩ := aA h
  obtain ⟨y, n1, h1, h⟩ := aA h
  cases h
  exact Or.inr (Or.inr ⟨rfl, hT.words n c1.1, (gds hT f).one _ _ _ _ h1, rfl⟩)
 rw [if_neg c1] at h
 obtain ⟨y, n1, h1, h⟩ := aA h
 have q := (gds hT f).one _ _ _ _ h1
 by_cases c3 : (pk E n1).text = aK
 ·rw [if_pos c3] at h
  obtain ⟨z, n2, h2, h⟩ := aA h
  cases h
  exact Or.inl ⟨rfl, rfl, q, dO hT h2⟩
 rw [if_neg c3] at h
 by_cases c4 : codeOf y = 10
 ·rw [if_pos c4] at h
  cases h
  exact Or.inr (Or.inl ⟨rfl, rfl, zQ q c4, rfl⟩)
 rw [if_neg c4] at h
 exact (aN h).elim
structure Sgds (E : Env) (f : Nat) : Prop where
 block : ∀ dep n x m, block E f dep n = .ok x m -> dep < 12 /\ dK x (dep + 1)
 stmts : ∀ dep cs a n x m, stmts E f dep cs a n = .ok x m -> dK a dep -> dK x dep
 stmt : ∀ dep n x m, stmt E f dep n = .ok x m -> eJ x dep
 cases : ∀ dep a n x m, cases E f dep a n = .ok x m -> a.len <= 6 -> fU a dep -> x.len <= 6 /\ fU x dep
 oneCase : ∀ dep n x m, oneCase E f dep n = .ok x m -> qW x dep
theorem LB {E : Env} (hT : TokOk E) (f : Nat) : Sgds E f := by
 induction f with
 | zero =>
  constructor
  ·intro _ _ _ _ h; rw [Tr.block] at h; cases h
  ·intro _ _ _ _ _ _ h; rw [Tr.stmts] at h; cases h
  ·intro _ _ _ _ h; rw [Tr.stmt] at h; cases h
  ·intro _ _ _ _ _ h; rw [Tr.cases] at h; cases h
  ·intro _ _ _ _ h; rw [Tr.oneCase] at h; cases h
 | succ f ih =>
  constructor
  ·intro dep n x m h
   rw [jB] at h
   obtain ⟨_, n1, h1, h⟩ := aA h
   obtain ⟨y, n2, h2, h⟩ := aA h
   obtain ⟨_, n3, h3, h⟩ := aA h
   cases h
   exact ⟨(nF h1).2, ih.stmts _ _ _ _ _ _ h2 (j4 _)⟩
  ·intro dep cs a n x m h ha
   rw [fK] at h
   by_cases c : (pk E n).text = tRb \/ (cs = true /\ ((pk E n).text = fW \/ (pk E n).text = bA))
   ·rw [if_pos c] at h
    cases h
    exact ha
   rw [if_neg c] at h
   obtain ⟨y, n1, h1, h⟩ := aA h
   have q := oS _ _ _ ha (ih.stmt _ _ _ _ h1)
   by_cases c2 : (pk E n1).text = tRb
   ·rw [if_pos c2] at h
    exact ih.stmts _ _ _ _ _ _ h q
   ·rw [if_neg c2] at h
    obtain ⟨_, n2, h2, h⟩ := aA h
    exact ih.stmts _ _ _ _ _ _ h q
  ·intro dep n x m h
   rw [cT] at h
   by_cases c0 : (pk E n).text = gW
   ·rw [if_pos c0] at h
    obtain ⟨y, n1, h1, h⟩ := aA h
    cases h
    unfold stz
    rw [eJ]
    exact Or.inr (Or.inr (Or.inl ⟨rfl, rfl, rfl, (gds hT f).bracketed _ _ _ _ h1, rfl, rfl, rfl⟩))
   rw [if_neg c0] at h
   by_cases c1 : (pk E n).text = gX
   ·rw [if_pos c1] at h
    obtain ⟨y, n1, h1, h⟩ := aA h
    cases h
    unfold stz
    rw [eJ]
    exact Or.inr (Or.inr (Or.inr (Or.inl ⟨Or.inl rfl, rfl, rfl, dO hT h1, rfl, rfl, rfl⟩)))
   rw [if_neg c1] at h
   by_cases c2 : (pk E n).text = gY
   ·rw [if_pos c2] at h
    obtain ⟨y, n1, h1, h⟩ := aA h
    cases h
    unfold stz
    rw [eJ]
    exact Or.inr (Or.inr (Or.inr (Or.inl ⟨Or.inr rfl, rfl, rfl, dO hT h1, rfl, rfl, rfl⟩)))
   rw [if_neg c2] at h
   by_cases c3 : (pk E n).text = tGo
   ·rw [if_pos c3] at h
    obtain ⟨t, n1, h1, h⟩ := aA h
    obtain ⟨y, n2, h2, h⟩ := aA h
    cases h
    have ht : (pk E (n + 1)).kind = 1 := by
     unfold aC Tr.fail at h1
     split at h1
     ·assumption
     ·cases h1
    obtain ⟨_, rfl⟩ := bW h1
    obtain ⟨q1, q2⟩ := (gds hT f).call _ _ _ _ _ (by decide) (hT.words _ ht) h2
    unfold stz
    rw [eJ]
    exact Or.inr (Or.inr (Or.inr (Or.inr (Or.inl ⟨rfl, rfl, rfl, mK q1 (Or.inl q2), q2, rfl, rfl, rfl⟩))))
   rw [if_neg c3] at h
   by_cases c4 : (pk E n).text = dA
   ·rw [if_pos c4] at h
    by_cases c : (pk E (n + 1)).kind = 5 \/ (pk E (n + 1)).text = tRb
    ·rw [if_pos c] at h
     cases h
     unfold stz
     rw [eJ]
     exact Or.inr (Or.inr (Or.inr (Or.inr (Or.inr (Or.inl ⟨rfl, rfl, rfl, Or.inl rfl, rfl, rfl, rfl⟩)))))
    ·rw [if_neg c] at h
     obtain ⟨y, n1, h1, h⟩ := aA h
     cases h
     unfold stz
     rw [eJ]
     exact Or.inr (Or.inr (Or.inr (Or.inr (Or.inr (Or.inl ⟨rfl, rfl, rfl, Or.inr (dO hT h1), rfl, rfl, rfl⟩)))))
   rw [if_neg c4] at h
   by_cases c5 : (pk E n).text = gZ
   ·rw [if_pos c5] at h
    cases h
    unfold stz
    rw [eJ]
    exact Or.inr (Or.inr (Or.inr (Or.inr (Or.inr (Or.inr (Or.inl ⟨Or.inl rfl, rfl, rfl, rfl, rfl, rfl, rfl⟩))))))
   rw [if_neg c5] at h
   by_cases c6 : (pk E n).text = cK
   ·rw [if_pos c6] at h
    cases h
    unfold stz
    rw [eJ]
    exact Or.inr (Or.inr (Or.inr (Or.inr (Or.inr (Or.inr (Or.inl ⟨Or.inr rfl, rfl, rfl, rfl, rfl, rfl, rfl⟩))))))
   rw [if_neg c6] at h
   by_cases c7 : (pk E n).text = tIf
   ·rw [if_pos c7] at h
    obtain ⟨y, n1, h1, h⟩ := aA h
    obtain ⟨a, n2, h2, h⟩ := aA h
    obtain ⟨p1, p2⟩ := ih.block _ _ _ _ h2
    by_cases c : (pk E n2).text = kF
    ·rw [if_pos c] at h
     obtain ⟨b, n3, h3, h⟩ := aA h
     cases h
     rw [eJ]
     exact Or.inr (Or.inr (Or.inr (Or.inr (Or.inr (Or.inr (Or.inr (Or.inr (Or.inl ⟨rfl, rfl, rfl, dO hT h1, p1, p2, (ih.block _ _ _ _ h3).2, rfl⟩))))))))
    ·rw [if_neg c] at h
     cases h
     rw [eJ]
     exact Or.inr (Or.inr (Or.inr (Or.inr (Or.inr (Or.inr (Or.inr (Or.inr (Or.inl ⟨rfl, rfl, rfl, dO hT h1, p1, p2, j4 _, rfl⟩))))))))
   rw [if_neg c7] at h
   by_cases c8 : (pk E n).text = oX
   ·rw [if_pos c8] at h
    obtain ⟨y, n1, h1, h⟩ := aA h
    obtain ⟨a, n2, h2, h⟩ := aA h
    cases h
    obtain ⟨p1, p2⟩ := ih.block _ _ _ _ h2
    rw [eJ]
    exact Or.inr (Or.inr (Or.inr (Or.inr (Or.inr (Or.inr (Or.inr (Or.inr (Or.inr (Or.inl ⟨rfl, rfl, rfl, dO hT h1, p1, p2, rfl, rfl⟩)))))))))
   rw [if_neg c8] at h
   by_cases c9 : (pk E n).text = dB
   ·rw [if_pos c9] at h
    obtain ⟨_, n1, h1, h⟩ := aA h
    obtain ⟨a, n2, h2, h⟩ := aA h
    obtain ⟨_, n3, h3, h⟩ := aA h
    cases h
    obtain ⟨q1, q2⟩ := ih.cases _ _ _ _ _ h2 (Nat.zero_le _) (zP _)
    rw [eJ]
    exact Or.inr (Or.inr (Or.inr (Or.inr (Or.inr (Or.inr (Or.inr (Or.inr (Or.inr (Or.inr (⟨rfl, rfl, rfl, rfl, rfl, rfl, (nF h1).2, q1, q2⟩))))))))))
   rw [if_neg c9] at h
   exact zR hT h
  ·intro dep a n x m h ha hg
   rw [gO] at h
   by_cases c : (pk E n).text = tRb
   ·rw [if_pos c] at h
    cases h
    exact ⟨ha, hg⟩
   rw [if_neg c] at h
   by_cases c2 : 6 <= a.len
   ·rw [if_pos c2] at h; exact (aN h).elim
   rw [if_neg c2] at h
   obtain ⟨y, n1, h1, h⟩ := aA h
   exact ih.cases _ _ _ _ _ h (by rw [Cas.len_snocT]; omega) (oT _ _ _ hg (ih.oneCase _ _ _ _ h1))
  ·intro dep n x m h
   rw [dD] at h
   by_cases c : (pk E n).text = bA
   ·rw [if_pos c] at h
    obtain ⟨_, n1, h1, h⟩ := aA h
    obtain ⟨l, n2, h2, h⟩ := aA h
    cases h
    rw [qW]
    exact ⟨Or.inr (Or.inr (Or.inr ⟨rfl, rfl, rfl, rfl⟩)), ih.stmts _ _ _ _ _ _ h2 (j4 _)⟩
   rw [if_neg c] at h
   obtain ⟨_, n1, h1, h⟩ := aA h
   obtain ⟨t, n2, h2, h⟩ := aA h
   obtain ⟨_, n3, h3, h⟩ := aA h
   obtain ⟨l, n4, h4, h⟩ := aA h
   cases h
   rw [qW]
   refine ⟨?_, ih.stmts _ _ _ _ _ _ h4 (j4 _)⟩
   rcases DT hT h2 with q | q | q
   ·exact Or.inl q
   ·exact Or.inr (Or.inl q)
   ·exact Or.inr (Or.inr (Or.inl q))
theorem xV (t : B) : kindV t <= 3 := by
 unfold kindV
 repeat' split
 all_goals omega
theorem u9 {E : Env} {q n m : Nat} {x : Tok} (h : aC E q n = .ok x m) : (pk E n).kind = q := by
 unfold aC Tr.fail at h
 split at h
 ·assumption
 ·cases h
theorem oU {E : Env} (hT : TokOk E) : ∀ (f : Nat) (acc : List Pa) (n : Nat) (x : List Pa) (m : Nat), params E f acc n = .ok x m -> (∀ p ∈ acc, BF p) -> ∀ p ∈ x, BF p
 | 0, _, _, _, _, h, _ => by rw [params] at h; cases h
 | f + 1, acc, n, x, m, h, ha => by
  rw [iN] at h
  obtain ⟨t, n1, h1, h⟩ := aA h
  have hk := u9 h1
  obtain ⟨rfl, rfl⟩ := bW h1
  by_cases q : kindV (pk E (n + 1)).text = 0
  ·rw [if_pos q] at h; exact (aN h).elim
  rw [if_neg q] at h
  have hp : ∀ p ∈ acc ++ [⟨(pk E n).text, kindV (pk E (n + 1)).text, (pk E n).at_⟩], BF p := fun p hp => by
   rcases List.mem_append.1 hp with h2 | h2
   ·exact ha p h2
   ·rw [List.mem_singleton.1 h2]
    exact ⟨hT.words n hk, by show 1 <= kindV _; omega, xV _⟩
  by_cases q2 : (pk E (n + 1 + 1)).text = bY
  ·rw [if_pos q2] at h
   exact oU hT f _ _ _ _ h hp
  ·rw [if_neg q2] at h
   obtain ⟨_, n2, h2, h⟩ := aA h
   cases h
   exact hp
theorem rP {E : Env} (hT : TokOk E) {f n m : Nat} {g : Fu} (h : Tr.function E f n = .ok g m) : GoodF g := by
 unfold Tr.function at h
 obtain ⟨_, n1, h1, h⟩ := aA h
 obtain ⟨t, n2, h2, h⟩ := aA h
 obtain ⟨_, n3, h3, h⟩ := aA h
 obtain ⟨ps, n4, h4, h⟩ := aA h
 obtain ⟨b, n5, h5, h⟩ := aA h
 cases h
 have hk := u9 h2
 obtain ⟨_, rfl⟩ := bW h2
 refine ⟨hT.words n1 hk, ?_, xV _, ((LB hT f).block _ _ _ _ h5).2⟩
 by_cases q : (pk E n3).text = tRp
 ·rw [if_pos q] at h4
  cases h4
  intro p hp
  cases hp
 ·rw [if_neg q] at h4
  exact oU hT f _ _ _ _ h4 (fun p hp => by cases hp)
theorem j6 {E : Env} (hT : TokOk E) : ∀ (f : Nat) (src : Src) (n : Nat) (x : Src) (m : Nat), Tr.program E f src n = .ok x m -> GoodSrc src -> GoodSrc x
 | 0, _, _, _, _, h, _ => by rw [Tr.program] at h; cases h
 | f + 1, src, n, x, m, h, hs => by
  rw [fD] at h
  by_cases c0 : E.toks.length <= n
  ·rw [if_pos c0] at h
   cases h
   exact hs
  rw [if_neg c0] at h
  by_cases c1 : (pk E n).text = oW
  ·rw [if_pos c1] at h
   by_cases c2 : 8 <= src.globals.length
   ·rw [if_pos c2] at h; exact (aN h).elim
   rw [if_neg c2] at h
   obtain ⟨t, n1, h1, h⟩ := aA h
   obtain ⟨_, n2, h2, h⟩ := aA h
   have hk := u9 h1
   obtain ⟨_, rfl⟩ := bW h1
   refine j6 hT f _ _ _ _ h ⟨fun g hg => ?_, hs.fus, by simp; omega, hs.nf⟩
   rcases List.mem_append.1 hg with h3 | h3
   ·exact hs.gls g h3
   ·rw [List.mem_singleton.1 h3]; exact hT.words _ hk
  rw [if_neg c1] at h
  by_cases c2 : (pk E n).text = j8
  ·rw [if_pos c2] at h
   by_cases c3 : 12 <= src.funcs.length
   ·rw [if_pos c3] at h; exact (aN h).elim
   rw [if_neg c3] at h
   obtain ⟨g, n1, h1, h⟩ := aA h
   obtain ⟨_, n2, h2, h⟩ := aA h
   refine j6 hT f _ _ _ _ h ⟨hs.gls, fun g' hg => ?_, hs.ng, by simp; omega⟩
   rcases List.mem_append.1 hg with h3 | h3
   ·exact hs.fus g' h3
   ·rw [List.mem_singleton.1 h3]; exact rP hT h1
  rw [if_neg c2] at h
  exact (aN h).elim
theorem GB {l : B} (h0 : 0 < bQ l) (hk : jK (l.take (aZ l)) = false) (hs : aZ l <= 12) : WordT 1 (l.take (aZ l)) := by
 have hle := pG l.length l (Nat.le_refl _)
 have e1 : aZ (l.take (aZ l)) = aZ l := by
  have h1 := BM l.length l [] 32 (Nat.le_refl _) AF
  have h2 := BN (l.take (aZ l)).length (l.take (aZ l)) [] 32 (Nat.le_refl _) AF
  rw [<- h2, h1]
 have hlen : (l.take (aZ l)).length = aZ l := by rw [List.length_take]; omega
 have hal : bR l = bQ l := by unfold bR; rw [if_neg (by omega)]
 have hw : bQ l <= aZ l := by rw [dL, hal, if_neg (by omega)]; omega
 have e2 : bQ (l.take (aZ l)) = bQ l := by
  have h1 := vB l ((l.take (aZ l)).drop (bQ l)) h0
  have h2 : l.take (bQ l) = (l.take (aZ l)).take (bQ l) := by rw [List.take_take, Nat.min_eq_left hw]
  rw [h2, List.take_append_drop] at h1
  exact h1
 exact ⟨by rw [e1, hlen], by rw [e2]; exact h0, by rw [hk]; rfl, fun _ => by rw [hlen]; exact hs⟩
theorem LD {l : B} {may : Bool} {n : Nat} (hl : l ≠ []) (h : dW l may = .cut (.tok 1 n)) : WordT 1 (l.take n) := by
 cases l with
 | nil => exact absurd rfl hl
 | cons b r =>
  rw [dY] at h
  split at h
  ·cases h
  split at h
  ·cases h
  split at h
  ·split at h <;> cases h
  ·have h2 : pH (b :: r) = .tok 1 n := by injection h
   rw [rX] at h2
   by_cases q1 : b = 59
   ·rw [if_pos q1] at h2; cases h2
   rw [if_neg q1] at h2
   by_cases q2 : cE b = true
   ·rw [if_pos q2] at h2
    unfold fX at h2
    split at h2
    ·cases h2
    split at h2 <;> cases h2
   rw [if_neg q2] at h2
   by_cases q3 : 0 < bQ (b :: r)
   ·rw [if_pos q3] at h2
    unfold fJ at h2
    by_cases q4 : jK ((b :: r).take (aZ (b :: r))) = true
    ·rw [if_pos q4] at h2; cases h2
    rw [if_neg q4] at h2
    by_cases q5 : 12 < aZ (b :: r)
    ·rw [if_pos q5] at h2; cases h2
    rw [if_neg q5] at h2
    have hn : aZ (b :: r) = n := by injection h2
    rw [<- hn]
    exact GB q3 (by simpa using q4) (by omega)
   ·rw [if_neg q3] at h2
    unfold fY at h2
    split at h2 <;> cases h2
theorem zS : ∀ (l : B) (a : Nat) (may : Bool) (ts : List Tok), lx l a may = (ts, none) -> ∀ t ∈ ts, t.kind = 1 -> WordT 1 t.text := by
 refine lA (fun _ _ _ ts => ∀ t ∈ ts, t.kind = 1 -> WordT 1 t.text) ?_ ?_ ?_
 ·intro a may t ht hk
  unfold tP at ht
  split at ht
  ·simp at ht; subst ht; cases hk
  ·cases ht
 ·intro l a may n ts _ _ _ _ _ ih
  exact ih
 ·intro l a may k n ts hl hs h1 h2 _ ih t ht hk
  rcases List.mem_cons.1 ht with rfl | ht
  ·have hk' : k = 1 := hk
   subst hk'
   exact LD hl hs
  ·exact ih t ht hk
theorem KA {l : B} {ts : List Tok} {e : Nat} (hts : lx l 0 false = (ts, none)) : TokOk ⟨ts, e⟩ := by
 have key : ∀ n, (pk ⟨ts, e⟩ n).kind ≠ 0 -> pk ⟨ts, e⟩ n ∈ ts := fun n hk => by
  have hlt := lU (E := ⟨ts, e⟩) (n := n) hk
  have h1 : ts[n]? = some ts[n] := List.getElem?_eq_getElem hlt
  have h2 : pk ⟨ts, e⟩ n = ts[n] := by unfold pk; rw [h1]; rfl
  rw [h2]
  exact List.getElem_mem hlt
 exact ⟨fun n hk => zS _ _ _ _ hts _ (key n (by rw [hk]; decide)) hk, fun n hk => tI _ _ _ _ hts _ (key n (by rw [hk]; decide)) hk⟩
end Tr
end Go.Proofs.YtnpapppipccdbaaGreatDoor
namespace Go.Proofs.YtnpapppipccdbaaGreatDoor
open Go.RowKit Lx Tr
theorem cD (least : Nat) (x : Ex) : (aF x).length <= (exW least x (aF x)).length := by
 unfold exW
 split
 ·rw [aF]; exact Nat.zero_le _
 ·split
  ·simp only [List.length_append, List.length_cons, List.length_nil]; omega
  ·exact Nat.le_refl _
theorem nK {k : Nat} {t : Lx.B} (h : WordT k t) : 1 <= t.length := by
 cases t with
 | nil => exact absurd rfl h.ne
 | cons b r => exact Nat.succ_le_succ (Nat.zero_le _)
theorem cH : szE .nil = 1 := rfl
theorem iE : kM .nil = 0 := rfl
theorem bZ : lwE .nil = 0 := rfl
theorem gJ : nJ .nil = 0 := rfl
mutual
theorem fV : ∀ (x : Ex) (d : Nat), bF x d -> lwE x <= 30 * (aF x).length /\ szE x <= 3 * (aF x).length
 | .nil, _, h => by rw [bF] at h; exact h.elim
 | .mk code a n op nm l r zs, d, h => by
  rw [bF] at h
  obtain ⟨_, h⟩ := h
  rw [lwE, szE]
  rcases h with ⟨rfl, hn, _, rfl, rfl, rfl, rfl⟩ | ⟨rfl, _, _, rfl, rfl, rfl, rfl⟩ | ⟨rfl, _, _, rfl, rfl, rfl, rfl⟩ | ⟨rfl, _, _, hw, rfl, rfl, rfl⟩ | ⟨rfl, _, rfl, rfl, hv, h1, h2⟩ | ⟨rfl, _, rfl, rfl, rfl, ho, h1⟩ | ⟨rfl, _, _, rfl, rfl, rfl, h1⟩ | ⟨rfl | rfl, _, _, rfl, rfl, rfl, h1⟩ | ⟨rfl, _, _, hw, rfl, rfl, h1⟩
  ·have hp : 1 <= (jX n).length := List.length_pos_iff.2 (J8 n hn).1.pos
   rw [show aF (.mk 1 a n op [] .nil .nil .nil) = jX n by rw [aF]; rfl, bZ, gJ, cH, iE, List.length_nil]
   omega
  ·have hp : 4 <= (aF (.mk 2 a n op [] .nil .nil .nil)).length := by
    rw [show aF (.mk 2 a n op [] .nil .nil .nil) = (if n = 0 then cP else eK) by rw [aF]; rfl]
    split <;> decide
   rw [bZ, gJ, cH, iE, List.length_nil]
   omega
  ·have hp : 3 <= (aF (.mk 3 a n op [] .nil .nil .nil)).length := by
    rw [show aF (.mk 3 a n op [] .nil .nil .nil) = hZ by rw [aF]; rfl]
    decide
   rw [bZ, gJ, cH, iE, List.length_nil]
   omega
  ·have hp := nK hw
   rw [show aF (.mk 4 a n op nm .nil .nil .nil) = nm by rw [aF]; rfl, bZ, gJ, cH, iE]
   omega
  ·have k1 := fV l _ h1
   have k2 := fV r _ h2
   have b1 := cD (bL op) l
   have b2 := cD (bL op + 1) r
   rw [show aF (.mk 5 a n op [] l r .nil) = exW (bL op) l (aF l) ++ ([32] ++ (sgV op ++ ([32] ++ exW (bL op + 1) r (aF r)))) by rw [aF]; rfl, gJ, iE]
   simp only [List.length_append, List.length_cons, List.length_nil]
   omega
  ·have k1 := fV l _ h1
   have b1 := cD 6 l
   have hs : 1 <= (cL op).length := by rcases ho with rfl | rfl | rfl <;> decide
   rw [show aF (.mk 6 a n op [] l .nil .nil) = cL op ++ exW 6 l (aF l) by rw [aF]; rfl, bZ, gJ, cH, iE]
   simp only [List.length_append, List.length_nil]
   omega
  ·have k1 := fV l _ h1
   have b1 := cD 6 l
   have hs : aK.length = 2 := rfl
   rw [show aF (.mk 10 a n op [] l .nil .nil) = aK ++ exW 6 l (aF l) by rw [aF]; rfl, bZ, gJ, cH, iE]
   simp only [List.length_append, List.length_nil]
   omega
  ·have k1 := fV l _ h1
   have b1 := cD 1 l
   rw [show aF (.mk 8 a n op [] l .nil .nil) = dQ ++ ([40] ++ (exW 1 l (aF l) ++ [41])) by rw [aF]; rfl, bZ, gJ, cH, iE]
   simp only [List.length_append, List.length_cons, List.length_nil]
   omega
  ·have k1 := fV l _ h1
   have b1 := cD 1 l
   rw [show aF (.mk 9 a n op [] l .nil .nil) = hY ++ ([40] ++ (exW 1 l (aF l) ++ [41])) by rw [aF]; rfl, bZ, gJ, cH, iE]
   simp only [List.length_append, List.length_cons, List.length_nil]
   omega
  ·have k1 := qY zs true _ h1
   have hp := nK hw
   rw [show aF (.mk 7 a n op nm .nil .nil zs) = nm ++ ([40] ++ (fH true zs ++ [41])) by rw [aF]; rfl, bZ, cH]
   simp only [List.length_append, List.length_cons, List.length_nil]
   simp only [if_true] at k1
   omega
theorem qY : ∀ (zs : Exs) (f : Bool) (d : Nat), dJ zs d -> nJ zs <= 30 * (fH f zs).length + (if f then 2 else 0) /\ kM zs <= 3 * (fH f zs).length
 | .nil, f, _, _ => ⟨Nat.zero_le _, Nat.zero_le _⟩
 | .cons x xs, f, d, h => by
  rw [dJ] at h
  have k1 := fV x d h.1
  have k2 := qY xs false d h.2
  have b1 := cD 1 x
  simp only [Bool.false_eq_true, if_false] at k2
  rw [fH, nJ, kM]
  cases f with
  | true => simp only [List.length_append, List.length_nil, if_true]; omega
  | false => simp only [List.length_append, List.length_cons, List.length_nil, Bool.false_eq_true, if_false]; omega
end
theorem nL {x : Ex} {d : Nat} (h : eE x d) (k : Nat) : lwE x <= 30 * (exV k x).length /\ szE x <= 3 * (exV k x).length := by
 have h1 := fV x _ h
 have h2 : _ <= (exV k x).length := cD k x
 omega
theorem eO {x : Ex} {d : Nat} (h : bF x d) (k : Nat) : lwE x <= 30 * (exV k x).length /\ szE x <= 3 * (exV k x).length := by
 have h1 := fV x _ h
 have h2 : _ <= (exV k x).length := cD k x
 omega
theorem eP : iT .nil = 0 := rfl
theorem eQ : mF .nil = 0 := rfl
theorem eR (d : Nat) : j3 d .nil = 0 := by rw [j3]
theorem eS (d : Nat) : oD d .nil = 0 := by rw [oD]
mutual
theorem GC : ∀ (s : St) (dep d : Nat), eJ s dep -> lwS d s <= 30 * (stV d s).length /\ szS s <= 3 * (stV d s).length
 | .mk code a nm x v t e cs, dep, d, h => by
  rw [eJ] at h
  rw [lwS, szS]
  rcases h with ⟨hc, hw, rfl, hg, rfl, rfl, rfl⟩ | ⟨rfl, rfl, hx, hg, rfl, rfl, rfl⟩ | ⟨rfl, rfl, rfl, hg, rfl, rfl, rfl⟩ | ⟨hc, rfl, rfl, hg, rfl, rfl, rfl⟩ | ⟨rfl, rfl, rfl, hg, _, rfl, rfl, rfl⟩ | ⟨rfl, rfl, rfl, hg, rfl, rfl, rfl⟩ | ⟨hc, rfl, rfl, rfl, rfl, rfl, rfl⟩ | ⟨rfl, rfl, rfl, hg, _, rfl, rfl, rfl⟩ | ⟨rfl, rfl, rfl, hg, _, ht, he, rfl⟩ | ⟨rfl, rfl, rfl, hg, _, ht, rfl, rfl⟩ | ⟨rfl, rfl, rfl, rfl, rfl, rfl, _, _, hcs⟩
  ·have k := eO hg 1
   have e1 : (stV d (.mk code a nm .nil v .nil .nil .nil)).length = 2 * d + 1 + nm.length + (if code = 1 then 4 else 3) + (exV 1 v).length := by
    rcases hc with rfl | rfl
    ·rw [stV, if_pos rfl, aE]; simp only [IL, List.length_append, List.length_cons, List.length_nil, if_true]; omega
    ·rw [stV, if_neg (by decide), if_pos rfl, aE]; simp only [IM, List.length_append, List.length_cons, List.length_nil]; rw [if_neg (by decide)]; omega
   have e2 : 3 <= (if code = 1 then 4 else 3) := by split <;> decide
   rw [bZ, cH, eR, eS, eP, eQ]
   omega
  ·have k := eO hg 1
   have kx := nL hx 6
   have e1 : (stV d (.mk 3 a [] x v .nil .nil .nil)).length = 2 * d + 5 + (exV 6 x).length + (exV 1 v).length := by
    rw [stV, if_neg (by decide), if_neg (by decide), if_pos rfl, aE]; unfold nD; simp only [List.length_append, List.length_cons, List.length_nil]; omega
   rw [eR, eS, eP, eQ, List.length_nil]
   omega
  ·have k := eO hg 1
   have e1 : (stV d (.mk 4 a [] .nil v .nil .nil .nil)).length = 2 * d + 8 + (exV 1 v).length := by
    rw [stV, if_neg (by decide), if_neg (by decide), if_neg (by decide), if_pos rfl, aE]; simp only [uV, cRp, List.length_append, List.length_cons, List.length_nil]; omega
   rw [bZ, cH, eR, eS, eP, eQ, List.length_nil]
   omega
  ·have k := eO hg 1
   have e1 : (stV d (.mk code a [] .nil v .nil .nil .nil)).length = 2 * d + 7 + (exV 1 v).length := by
    rcases hc with rfl | rfl
    ·rw [stV, if_neg (by decide), if_neg (by decide), if_neg (by decide), if_neg (by decide), if_pos rfl, aE]; simp only [uW, List.length_append, List.length_cons, List.length_nil]; omega
    ·rw [stV, if_neg (by decide), if_neg (by decide), if_neg (by decide), if_neg (by decide), if_neg (by decide), if_pos rfl, aE]; simp only [uX, List.length_append, List.length_cons, List.length_nil]; omega
   rw [bZ, cH, eR, eS, eP, eQ, List.length_nil]
   omega
  ·have k := eO hg 1
   have e1 : (stV d (.mk 7 a [] .nil v .nil .nil .nil)).length = 2 * d + 4 + (exV 1 v).length := by
    rw [stV, if_neg (by decide), if_neg (by decide), if_neg (by decide), if_neg (by decide), if_neg (by decide), if_neg (by decide), if_pos rfl, aE]; simp only [cGo, List.length_append, List.length_cons, List.length_nil]; omega
   rw [bZ, cH, eR, eS, eP, eQ, List.length_nil]
   omega
  ·have e0 : stV d (.mk 8 a [] .nil v .nil .nil .nil) = kY d v := by
    rw [stV, if_neg (by decide), if_neg (by decide), if_neg (by decide), if_neg (by decide), if_neg (by decide), if_neg (by decide), if_neg (by decide), if_pos rfl]
   rw [e0, bZ, cH, eR, eS, eP, eQ, List.length_nil]
   rcases hg with rfl | hg
   ·have e1 : (kY d .nil).length = 2 * d + 7 := by
     unfold kY; rw [aE]; simp only [kX, List.length_cons, List.length_nil]
    rw [bZ, cH]
    omega
   ·have k := eO hg 1
    have e1 : 2 * d + 7 + (exV 1 v).length <= (kY d v).length := by
     unfold kY
     split
     ·rw [aE]; have e2 : (exV 1 .nil).length = 0 := rfl; rw [e2]; simp only [kX, List.length_cons, List.length_nil]; omega
     ·rw [aE]; simp only [pC, List.length_append, List.length_cons, List.length_nil]; omega
    omega
  ·have e1 : 2 * d + 6 <= (stV d (.mk code a [] .nil .nil .nil .nil .nil)).length := by
    rcases hc with rfl | rfl
    ·rw [stV, if_neg (by decide), if_neg (by decide), if_neg (by decide), if_neg (by decide), if_neg (by decide), if_neg (by decide), if_neg (by decide), if_neg (by decide), if_pos rfl, aE]; simp only [uY, List.length_cons, List.length_nil]; omega
    ·rw [stV, if_neg (by decide), if_neg (by decide), if_neg (by decide), if_neg (by decide), if_neg (by decide), if_neg (by decide), if_neg (by decide), if_neg (by decide), if_neg (by decide), if_pos rfl, aE]; simp only [lF, List.length_cons, List.length_nil]; omega
   rw [bZ, cH, eR, eS, eP, eQ, List.length_nil]
   omega
  ·have k := eO hg 1
   have k2 : 1 <= (exV 1 v).length := by have := (fV v _ hg).2; have h9 := AK v; have h8 : _ <= (exV 1 v).length := cD 1 v; omega
   have e1 : (stV d (.mk 11 a [] .nil v .nil .nil .nil)).length = 2 * d + 1 + (exV 1 v).length := by
    rw [stV, if_neg (by decide), if_neg (by decide), if_neg (by decide), if_neg (by decide), if_neg (by decide), if_neg (by decide), if_neg (by decide), if_neg (by decide), if_neg (by decide), if_neg (by decide), if_pos rfl, aE]; omega
   have k3 : 2 <= (exV 1 v).length := by
    cases v with
    | nil => rw [bF] at hg; exact hg.elim
    | mk c' a' n' o' nm' l' r' z' =>
     rename_i hcd
     have h8 : _ <= (exV 1 (Ex.mk c' a' n' o' nm' l' r' z')).length := cD 1 _
     have hc' : c' = 7 \/ c' = 10 := hcd
     refine Nat.le_trans ?_ h8
     rcases hc' with rfl | rfl
     ·rw [show aF (.mk 7 a' n' o' nm' l' r' z') = nm' ++ ([40] ++ (fH true z' ++ [41])) by rw [aF]; rfl]
      simp only [List.length_append, List.length_cons, List.length_nil]; omega
     ·rw [show aF (.mk 10 a' n' o' nm' l' r' z') = aK ++ exW 6 l' (aF l') by rw [aF]; rfl]
      have hs : aK.length = 2 := rfl
      simp only [List.length_append]; omega
   have k4 : lwE v + 21 <= 30 * (exV 1 v).length := by
    cases v with
    | nil => rw [bF] at hg; exact hg.elim
    | mk c' a' n' o' nm' l' r' z' =>
     rename_i hcd
     have hc' : c' = 7 \/ c' = 10 := hcd
     have h8 : _ <= (exV 1 (Ex.mk c' a' n' o' nm' l' r' z')).length := cD 1 _
     rw [bF] at hg
     obtain ⟨_, hg⟩ := hg
     rcases hc' with rfl | rfl
     ·rcases hg with ⟨q, _⟩ | ⟨q, _⟩ | ⟨q, _⟩ | ⟨q, _⟩ | ⟨q, _⟩ | ⟨q, _⟩ | ⟨q, _⟩ | ⟨q, _⟩ | ⟨_, _, _, hw, rfl, rfl, h1⟩
      ·omega
      ·omega
      ·omega
      ·omega
      ·omega
      ·omega
      ·omega
      ·omega
      ·have k1 := qY z' true _ h1
       have hp := nK hw
       rw [show aF (.mk 7 a' n' o' nm' .nil .nil z') = nm' ++ ([40] ++ (fH true z' ++ [41])) by rw [aF]; rfl] at h8
       rw [lwE, bZ]
       simp only [List.length_append, List.length_cons, List.length_nil] at h8
       simp only [if_true] at k1
       omega
     ·rcases hg with ⟨q, _⟩ | ⟨q, _⟩ | ⟨q, _⟩ | ⟨q, _⟩ | ⟨q, _⟩ | ⟨q, _⟩ | ⟨_, _, _, rfl, rfl, rfl, h1⟩ | ⟨q, _⟩ | ⟨q, _⟩
      ·omega
      ·omega
      ·omega
      ·omega
      ·omega
      ·omega
      ·have k1 := fV l' _ h1
       have b1 := cD 6 l'
       have hs : aK.length = 2 := rfl
       rw [show aF (.mk 10 a' n' o' [] l' .nil .nil) = aK ++ exW 6 l' (aF l') by rw [aF]; rfl] at h8
       rw [lwE, bZ, gJ, List.length_nil]
       simp only [List.length_append] at h8
       omega
      ·omega
      ·omega
   rw [bZ, cH, eR, eS, eP, eQ, List.length_nil]
   omega
  ·have k := eO hg 1
   have kt := gE t _ (d + 1) ht
   have ke := gE e _ (d + 1) he
   have e2 : (eB (d + 1) e).length <= (if e.len = 0 then [] else a8 d tB ++ eB (d + 1) e).length := by
    split
    ·rename_i h0
     cases e with
     | nil => rw [eB]; exact Nat.zero_le _
     | cons s ss => cases h0
    ·rw [List.length_append]; omega
   have e1 : 4 * d + 8 + (exV 1 v).length + (eB (d + 1) t).length + (eB (d + 1) e).length <= (stV d (.mk 12 a [] .nil v t e .nil)).length := by
    rw [stV, if_neg (by decide), if_neg (by decide), if_neg (by decide), if_neg (by decide), if_neg (by decide), if_neg (by decide), if_neg (by decide), if_neg (by decide), if_neg (by decide), if_neg (by decide), if_neg (by decide), if_pos rfl]
    rw [List.length_append, List.length_append, List.length_append, aE, aE]; simp only [cIf, oO, mH, List.length_append, List.length_cons, List.length_nil]; omega
   rw [bZ, cH, eS, eQ, List.length_nil]
   omega
  ·have k := eO hg 1
   have kt := gE t _ (d + 1) ht
   have e1 : 4 * d + 8 + (exV 1 v).length + (eB (d + 1) t).length <= (stV d (.mk 13 a [] .nil v t .nil .nil)).length := by
    rw [stV, if_neg (by decide), if_neg (by decide), if_neg (by decide), if_neg (by decide), if_neg (by decide), if_neg (by decide), if_neg (by decide), if_neg (by decide), if_neg (by decide), if_neg (by decide), if_neg (by decide), if_neg (by decide), if_pos rfl]
    rw [List.length_append, List.length_append, aE, aE]; simp only [iO9, oO, mH, List.length_append, List.length_cons, List.length_nil]; omega
   rw [bZ, cH, eR, eS, eP, eQ, List.length_nil]
   omega
  ·have kc := tN cs _ d hcs
   have e1 : 4 * d + 8 + (kD d cs).length <= (stV d (.mk 14 a [] .nil .nil .nil .nil cs)).length := by
    rw [stV, if_neg (by decide), if_neg (by decide), if_neg (by decide), if_neg (by decide), if_neg (by decide), if_neg (by decide), if_neg (by decide), if_neg (by decide), if_neg (by decide), if_neg (by decide), if_neg (by decide), if_neg (by decide), if_neg (by decide), if_pos rfl]
    rw [List.length_append, List.length_append, aE, aE]; simp only [pD, mH, List.length_cons, List.length_nil]; omega
   rw [bZ, cH, eR, eP, List.length_nil]
   omega
theorem gE : ∀ (ss : Sts) (dep d : Nat), dK ss dep -> j3 d ss <= 30 * (eB d ss).length /\ iT ss <= 3 * (eB d ss).length
 | .nil, _, _, _ => ⟨by rw [j3]; exact Nat.zero_le _, Nat.zero_le _⟩
 | .cons s ss, dep, d, h => by
  rw [dK] at h
  have k1 := GC s dep d h.1
  have k2 := gE ss dep d h.2
  rw [eB, j3, iT, List.length_append]
  omega
theorem GD : ∀ (s : Ca) (dep d : Nat), qW s dep -> lwC d s <= 30 * (caV d s).length /\ szC s <= 3 * (caV d s).length
 | .mk c a nm x v b, dep, d, h => by
  rw [qW] at h
  obtain ⟨h, hb⟩ := h
  have kb := gE b dep (d + 1) hb
  have e1 : (caV d (.mk c a nm x v b)).length = 2 * d + 2 + (gU c nm x v).length + (eB (d + 1) b).length := by
   rw [caV, List.length_append, aE]; simp only [qL, List.length_append, List.length_cons, List.length_nil]; omega
  rw [lwC, szC, e1]
  rcases h with ⟨rfl, rfl, hx, hg⟩ | ⟨rfl, rfl, hx, rfl⟩ | ⟨rfl, hw, hx, rfl⟩ | ⟨rfl, rfl, rfl, rfl⟩
  ·have k := eO hg 1
   have kx := nL hx 6
   have e2 : (gU 3 [] x v).length = 9 + (exV 6 x).length + (exV 1 v).length := by
    unfold gU nD; rw [if_pos rfl]; simp only [oP, List.length_append, List.length_cons, List.length_nil]; omega
   rw [List.length_nil]
   omega
  ·have kx := nL hx 6
   have e2 : (gU 10 [] x .nil).length = 7 + (exV 6 x).length := by
    unfold gU; rw [if_neg (by decide), if_pos rfl, if_pos rfl]; simp only [jH, List.length_append, List.length_cons, List.length_nil]
   rw [List.length_nil, bZ, cH]
   omega
  ·have kx := nL hx 6
   have hp := nK hw
   have e2 : (gU 10 nm x .nil).length = 11 + nm.length + (exV 6 x).length := by
    unfold gU; rw [if_neg (by decide), if_pos rfl, if_neg (fun e => by rw [e] at hp; exact absurd hp (by decide))]; simp only [oP, nE, List.length_append, List.length_cons, List.length_nil]; omega
   rw [bZ, cH]
   omega
  ·have e2 : (gU 40 [] .nil .nil).length = 7 := by
    unfold gU; rw [if_neg (by decide), if_neg (by decide)]; rfl
   rw [List.length_nil, bZ, cH]
   omega
theorem tN : ∀ (ss : Cas) (dep d : Nat), fU ss dep -> oD d ss <= 30 * (kD d ss).length /\ mF ss <= 3 * (kD d ss).length
 | .nil, _, _, _ => ⟨by rw [oD]; exact Nat.zero_le _, Nat.zero_le _⟩
 | .cons s ss, dep, d, h => by
  rw [fU] at h
  have k1 := GD s dep d h.1
  have k2 := tN ss dep d h.2
  rw [kD, oD, mF, List.length_append]
  omega
end
theorem xW {α : Type} (f : α -> Lx.B) : ∀ (l : List α) (x : α), x ∈ l -> (f x).length <= (l.flatMap f).length
 | [], _, h => by cases h
 | y :: ys, x, h => by
  rw [List.flatMap_cons, List.length_append]
  rcases List.mem_cons.1 h with rfl | h
  ·omega
  ·have := xW f ys x h; omega
theorem BG {α : Type} (f g : α -> Lx.B) : ∀ l : List α, (∀ x ∈ l, (g x).length <= 30 * (f x).length) -> (l.flatMap g).length <= 30 * (l.flatMap f).length
 | [], _ => Nat.zero_le _
 | y :: ys, h => by
  rw [List.flatMap_cons, List.flatMap_cons, List.length_append, List.length_append]
  have h1 := h y (List.mem_cons_self ..)
  have h2 := BG f g ys fun x hx => h x (List.mem_cons_of_mem _ hx)
  omega
theorem xX : ∀ (l : List Pa) (f : Bool), l.length <= (mI f l).length
 | [], _ => Nat.zero_le _
 | x :: xs, f => by
  have h := xX xs false
  show xs.length + 1 <= ((if f then [] else [44, 32]) ++ (paV x ++ mI false xs)).length
  have h2 : 1 <= (paV x).length := by unfold paV; simp only [List.length_append, List.length_cons]; omega
  simp only [List.length_append]
  omega
theorem KB {g : Fu} (hok : fQ g.body) (hg : GoodF g) : (fuV (gS g)).length <= 30 * (fuV g).length := by
 have h1 : (eB 1 (aD g.body)).length <= _ := qV (aD g.body) 1 (iK _ hok)
 have h2 := jI g.body 1
 have h3 := (gE g.body 1 1 hg.body).1
 have e1 : ∀ g : Fu, (fuV g).length = ((A6 ++ (g.name ++ [40])).length + (mI true g.params).length + 2 + (if g.kind = 0 then [] else tA g.kind ++ [32]).length + 2 + (a8 0 mH).length) + (eB 1 g.body).length := fun g => by
  unfold fuV
  simp only [List.length_append, List.length_cons, List.length_nil]
  omega
 rw [e1, e1 g]
 show (((A6 ++ (g.name ++ [40])).length + (mI true g.params).length + 2 + (if g.kind = 0 then [] else tA g.kind ++ [32]).length + 2 + (a8 0 mH).length) + (eB 1 (aD g.body)).length) <= _
 omega
theorem GE {s : Src} (hok : tD s) (hg : GoodSrc s) : (hD (tX s)).length <= 30 * (hD s).length := by
 unfold hD tX
 simp only [List.length_append, List.flatMap_map]
 have h := BG fuV (fun g => fuV (gS g)) s.funcs fun g h => KB (hok g h) (hg.fus g h)
 omega
theorem I2 {s : Src} (hok : tD s) (hg : GoodSrc s) (hl : (hD s).length <= 193628) : FoldOk s := by
 refine ⟨by have := hg.ng; omega, by have := hg.nf; omega, fun g h => ?_⟩
 have h1 := xW fuV s.funcs g h
 have h2 := (gE g.body 1 1 (hg.fus g h).body).2
 have h3 := xX g.params true
 unfold hD at hl
 rw [List.length_append] at hl
 have h4 : (mI true g.params).length + (eB 1 g.body).length <= (fuV g).length := by
  unfold fuV
  simp only [List.length_append]
  omega
 exact ⟨by omega, hok g h, by omega⟩
theorem DU {l : Lx.B} {ts : List Tok} {e m : Nat} {s : Src} (hs : l.length <= 1500) (hts : lx l 0 false = (ts, none)) (h : Ev (fun f => Tr.program ⟨ts, e⟩ f ⟨[], []⟩ 0) (.ok s m)) : tD s /\ FoldOk s /\ (hD s).length <= 193628 /\ (hD (tX s)).length <= 5808840 := by
 obtain ⟨h1, h2⟩ := xQ hts h
 obtain ⟨_, f0, h⟩ := h
 have hg : GoodSrc s := j6 (KA hts) f0 ⟨[], []⟩ 0 s m (h f0 (Nat.le_refl _)) ⟨fun g hg => (by cases hg), fun g hg => (by cases hg), Nat.zero_le _, Nat.zero_le _⟩
 have h3 := GE h1 hg
 exact ⟨h1, I2 h1 hg (by omega), by omega, by omega⟩
end Go.Proofs.YtnpapppipccdbaaGreatDoor
namespace Go.Proofs.YtnpapppipccdbaaGreatDoor
open Go.RowKit Lx Tr
variable {w w' : World}
mutual
theorem gF : ∀ x : Ex, aJ x <= szE x
 | .nil => Nat.zero_le _
 | .mk c a n op nm l r zs => by
  have h1 := gF l
  have h2 := gF r
  have h3 := qZ zs
  rw [aJ, szE]; omega
theorem qZ : ∀ xs : Exs, dF xs <= kM xs
 | .nil => Nat.zero_le _
 | .cons x xs => by
  have h1 := gF x
  have h2 := qZ xs
  rw [dF, kM]; omega
end
mutual
theorem zT : ∀ s : St, bK s <= szS s
 | .mk c a nm x v t e cs => by
  have h1 := gF x
  have h2 := gF v
  have h3 := gV t
  have h4 := gV e
  have h5 := oV cs
  rw [bK, szS]; omega
theorem gV : ∀ ss : Sts, aW ss <= iT ss
 | .nil => Nat.zero_le _
 | .cons s ss => by
  have h1 := zT s
  have h2 := gV ss
  rw [aW, iT]; omega
theorem zU : ∀ s : Ca, cB s <= szC s
 | .mk c a nm x v b => by
  have h1 := gF x
  have h2 := gF v
  have h3 := gV b
  rw [cB, szC]; omega
theorem oV : ∀ ss : Cas, dM ss <= mF ss
 | .nil => Nat.zero_le _
 | .cons s ss => by
  have h1 := zU s
  have h2 := oV ss
  rw [dM, mF]; omega
end
theorem xY {F : Nat -> Prop} {fa : Option Addr} {fn fc k : Nat} {l : List Fu} {f : Fu} (h : dT w F (.slice fa fn fc) l) (hk : l[k]? = some f) : ∃ g o n c, fa = some ⟨g, 0, none⟩ /\ F g /\ w.cell? ⟨g, k * 5, none⟩ = some (.string (mkT f.name)) /\ w.cell? ⟨g, k * 5 + 4, none⟩ = some (.slice o n c) /\ StsF w F f.body (.slice o n c) := by
 rcases h with ⟨_, e⟩ | ⟨g, cap, e, h1, h2, h3, h4, h5⟩
 ·rw [e] at hk; cases hk
 injection e with e1 _ _
 obtain ⟨pv, bv, a0, a1, a2, a3, a4, _, a6⟩ := h5 k f hk
 obtain ⟨o, c, rfl⟩ := bM a6.1
 exact ⟨g, o, _, c, e1, h3, a0, a4, a6⟩
theorem DV {F : Nat -> Prop} {v : Value} {l : List Fu} (h : dT w F v l) : l.length <= 9223372036854775807 := by
 rcases h with ⟨_, e⟩ | ⟨g, cap, e, h1, h2, _⟩
 ·rw [e]; exact Nat.zero_le _
 ·unfold maxLen at h2; omega
theorem rQ (q : ByteArray) (w : World) (hE : LawEnv w) : Calls Tryz.prog 9 #[.string q] w fun e w' => e = .returned (.bool true) /\ Below w.heap.size w w' := by
 have HG := zz (zN w hE)
 have HE := zz hE
 clear hE
 go_enter Tryz.func9, Tryz.ntmps9
 go_wp2_with fail
 refine HG.out.mono ?_
 rintro e w1 ⟨rfl, hb1⟩
 have HE1 := zz (HE.out.below hb1)
 have HB1 := zz hb1
 clear hb1
 go_wp2_with fail
 refine (F2 q w1 HE1.out).mono ?_
 rintro e w2 ⟨hra, hb2⟩
 have HB2 := zz (HB1.out.trans (hb2.mono HB1.out.size))
 clear hb2
 rcases hra with ⟨ts, src, m, gxv, fxv, hsa, hts, hev, rfl, hox⟩ | rfl
 ·obtain ⟨ga, gc, rfl⟩ := j1 hox.choose_spec.1
  obtain ⟨fa, fc, rfl⟩ := j1 hox.choose_spec.2.1
  have hbx := eA w2 #[.slice ga src.globals.length gc, .slice fa src.funcs.length fc] 26
  obtain ⟨hok, hfo, _, hlen⟩ := DU (by rw [Array.length_toList]; exact hsa) hts hev
  have hox2 : JW (w2.alloc (.cells #[.slice ga src.globals.length gc, .slice fa src.funcs.length fc] 26)) (fun b => b < (w2.alloc (.cells #[.slice ga src.globals.length gc, .slice fa src.funcs.length fc] 26)).heap.size) src (.slice ga src.globals.length gc) (.slice fa src.funcs.length fc) := (hox.keeps (S := fun _ => False) ((Keeps.refl _ _).alloc _) (fun _ _ e => e)).toG (fun b h1 _ => h1)
  have HF := zz (xA hfo (w2.alloc (.cells #[.slice ga src.globals.length gc, .slice fa src.funcs.length fc] 26)) (fun _ h => h) hox2.1 hox2.2)
  have HX2 := zz hox2.2
  have HFO := zz hfo
  have HBX := zz (HB2.out.trans (hbx.mono HB2.out.size))
  clear hsa hts hev hox hbx hok hlen hox2 hfo
  go_wp2_with fail
  refine HF.out.mono ?_
  rintro e w3 ⟨ya, yc, za, zc, rfl, hgl, hfu, hb3⟩
  obtain ⟨w4, hw4⟩ : ∃ W, W = w3.alloc (.cells #[.slice ya src.globals.length yc, .slice za src.funcs.length zc] 26) := ⟨_, rfl⟩
  have HW4 := zz hw4
  have hb34 : Below w3.heap.size w3 w4 := by rw [hw4]; exact eA w3 #[.slice ya src.globals.length yc, .slice za src.funcs.length zc] 26
  have hbx4 : Below (w2.alloc (.cells #[.slice ga src.globals.length gc, .slice fa src.funcs.length fc] 26)).heap.size (w2.alloc (.cells #[.slice ga src.globals.length gc, .slice fa src.funcs.length fc] 26)) w4 := hb3.trans (hb34.mono hb3.size)
  have HB4 : Hid (Below w.heap.size w w4) := zz (HBX.out.trans (hbx4.mono HBX.out.size))
  have hz2 : (w2.alloc (.cells #[.slice ga src.globals.length gc, .slice fa src.funcs.length fc] 26)).heap.size = w2.heap.size + 1 := by simp
  have hz4 : w4.heap.size = w3.heap.size + 1 := by rw [hw4]; simp
  have hxr : dT w4 (fun b => b < w4.heap.size) (.slice fa src.funcs.length fc) src.funcs := fB (fun b h1 _ => h1) (cZ HX2.out (gD hbx4) eX)
  have hyr : dT w4 (fun b => b < w4.heap.size) (.slice za src.funcs.length zc) (src.funcs.map gS) := fB (fun b h1 _ => h1) (cZ (S := fun _ => False) hfu (by rw [hw4]; exact (Keeps.refl _ _).alloc _) (fun _ _ e => e))
  have hx0 : w4.cell? ⟨w2.heap.size, 0, none⟩ = some (.slice ga src.globals.length gc) := by
   rw [hbx4.cell (p := ⟨w2.heap.size, 0, none⟩) (by rw [hz2]; exact Nat.lt_succ_self _), Lib.cell_of_heap (heap_alloc_new w2 _)]
   rfl
  have hx1 : w4.cell? ⟨w2.heap.size, 1, none⟩ = some (.slice fa src.funcs.length fc) := by
   rw [hbx4.cell (p := ⟨w2.heap.size, 1, none⟩) (by rw [hz2]; exact Nat.lt_succ_self _), Lib.cell_of_heap (heap_alloc_new w2 _)]
   rfl
  have hy0 : w4.cell? ⟨w3.heap.size, 0, none⟩ = some (.slice ya src.globals.length yc) := by
   rw [hw4, Lib.cell_of_heap (heap_alloc_new w3 _)]; rfl
  have hy1 : w4.cell? ⟨w3.heap.size, 1, none⟩ = some (.slice za src.funcs.length zc) := by
   rw [hw4, Lib.cell_of_heap (heap_alloc_new w3 _)]; rfl
  have hs23 := hb3.size
  rw [hz2] at hs23
  obtain ⟨xb, hxb⟩ : ∃ b, b = w2.heap.size := ⟨_, rfl⟩
  obtain ⟨yb, hyb⟩ : ∃ b, b = w3.heap.size := ⟨_, rfl⟩
  have HIN : Hid (xb < w4.heap.size /\ yb < w4.heap.size) := zz ⟨by omega, by omega⟩
  have HC4 : Hid (∀ W, Below w4.heap.size w4 W -> W.cell? ⟨xb, 1, none⟩ = some (.slice fa src.funcs.length fc) /\ W.cell? ⟨yb, 1, none⟩ = some (.slice za src.funcs.length zc)) := zz fun W hb => ⟨by rw [hb.cell (p := ⟨xb, 1, none⟩) HIN.out.1, hxb]; exact hx1, by rw [hb.cell (p := ⟨yb, 1, none⟩) HIN.out.2, hyb]; exact hy1⟩
  have HXR : Hid (∀ W, Below w4.heap.size w4 W -> dT W (fun b => b < w4.heap.size) (.slice fa src.funcs.length fc) src.funcs) := zz fun W hb => cZ hxr (gD hb) eX
  have HYR : Hid (∀ W, Below w4.heap.size w4 W -> dT W (fun b => b < w4.heap.size) (.slice za src.funcs.length zc) (src.funcs.map gS)) := zz fun W hb => cZ hyr (gD hb) eX
  have HMX := zz (DV hxr)
  have hn0 : ((src.funcs.length : Int) != (src.funcs.length : Int)) = false := bne_self_eq_false _
  have hn1 : ((src.globals.length : Int) != (src.globals.length : Int)) = false := bne_self_eq_false _
  clear hgl hfu hb3 hb34 hbx4 hz2 hz4 hxr hyr hs23
  go_upto_region 7 with fail
  rw [<- HW4.out]
  rw [<- hxb] at hx0 hx1 ⊢
  rw [<- hyb] at hy0 hy1 ⊢
  clear hw4 hxb hyb
  go_wp2_with fail
  go_loopw [6] (fun i wr => ∃ k : Nat, k <= src.funcs.length /\ i = .int .i64 k /\ Below w4.heap.size w4 wr) (fun i _ => src.funcs.length - (intOf i).toNat)
  case atStart => exact ⟨0, Nat.zero_le _, rfl, Below.refl _ _⟩
  case round =>
   obtain ⟨k, hk, rfl, hb⟩ := hrel
   have HBL := zz hb
   obtain ⟨hx1, hy1⟩ := HC4.out wr hb
   have hmx := HMX.out
   clear hb hx0 hy0 hn0 hn1
   by_cases hlt : k < src.funcs.length
   ·obtain ⟨f, hkf⟩ : ∃ f, src.funcs[k]? = some f := ⟨_, List.getElem?_eq_getElem hlt⟩
    have hkm : (src.funcs.map gS)[k]? = some (gS f) := by rw [List.getElem?_map, hkf]; rfl
    obtain ⟨xg, uo, un, uc, rfl, hxg, xa0, xa4, hxs⟩ := xY (HXR.out wr HBL.out) hkf
    obtain ⟨yg, vo, vn, vc, rfl, hyg, ya0, ya4, hys⟩ := xY (HYR.out wr HBL.out) hkm
    have hki : (k : Int) < (src.funcs.length : Int) := by omega
    have hkii : (0 : Int) <= (k : Int) /\ (k : Int) < (src.funcs.length : Int) := by omega
    have hw : IntKind.i64.wrap ((k : Int) + 1) = (k : Int) + 1 := IntWalk.i64_in _ (by omega)
    obtain ⟨_, _, hsz⟩ := HFO.out.fs f (List.mem_of_getElem? hkf)
    have hwx : aW f.body <= 100000000 := by have := gV f.body; omega
    have hwl := eM f.body
    obtain ⟨WX, hWX⟩ : ∃ n, n = aW f.body := ⟨_, rfl⟩
    obtain ⟨WY, hWY⟩ : ∃ n, n = aW (aD f.body) := ⟨_, rfl⟩
    obtain ⟨nm, hnm⟩ : ∃ t, t = mkT f.name := ⟨_, rfl⟩
    rw [<- hnm] at xa0
    have ya0' : wr.cell? ⟨yg, k * 5, none⟩ = some (.string nm) := by rw [hnm]; exact ya0
    have hgt : ¬ (WX : Int) < (WY : Int) := by omega
    have hBr := HBL.out.size
    have HC : Hid (∀ W', Below wr.heap.size wr W' -> W'.cell? ⟨xb, 1, none⟩ = some (.slice (some ⟨xg, 0, none⟩) src.funcs.length fc) /\ W'.cell? ⟨yb, 1, none⟩ = some (.slice (some ⟨yg, 0, none⟩) src.funcs.length zc) /\ W'.cell? ⟨yg, k * 5 + 4, none⟩ = some (.slice vo vn vc) /\ W'.cell? ⟨xg, k * 5 + 4, none⟩ = some (.slice uo un uc) /\ W'.cell? ⟨yg, k * 5, none⟩ = some (.string nm) /\ W'.cell? ⟨xg, k * 5, none⟩ = some (.string nm)) := zz fun W hb => by
     have hk := gD (hb.mono hBr)
     obtain ⟨q1, q2⟩ := HC4.out W (HBL.out.trans (hb.mono hBr))
     exact ⟨q1, q2, hk.cell_of ya4 (eX _ hyg), hk.cell_of xa4 (eX _ hxg), hk.cell_of ya0' (eX _ hyg), hk.cell_of xa0 (eX _ hxg)⟩
    have HD1 : Hid (∀ W, Below wr.heap.size wr W -> Calls Tryz.prog 34 #[.slice vo vn vc] W fun e w' => e = .returned (.int .i64 (WY : Nat)) /\ Below W.heap.size W w') := zz fun W hb => by rw [hWY]; exact qI (aD f.body) (by omega) w4.heap.size W _ (Nat.le_trans hBr hb.size) (hys.below (hb.mono hBr))
    have HD2 : Hid (∀ W, Below wr.heap.size wr W -> Calls Tryz.prog 34 #[.slice uo un uc] W fun e w' => e = .returned (.int .i64 (WX : Nat)) /\ Below W.heap.size W w') := zz fun W hb => by rw [hWX]; exact qI f.body hwx w4.heap.size W _ (Nat.le_trans hBr hb.size) (hxs.below (hb.mono hBr))
    have HBE : Hid (Below wr.heap.size wr wr.drew) := zz (Below.drew (Below.refl _ wr))
    obtain ⟨s1, s2, s3, s4, s5, s6⟩ := HC.out wr (Below.refl _ _)
    clear hkf hkm hxg xa0 xa4 hxs hyg ya0 ya4 hys hsz hwx hwl hWX hWY hnm ya0' hBr hmx
    go_upto_region 12 with fail
    refine wp_region_held_drew (S := (fun W' : World => W'.cell? ⟨xb, 1, none⟩ = some (.slice (some ⟨xg, 0, none⟩) src.funcs.length fc) /\ W'.cell? ⟨yb, 1, none⟩ = some (.slice (some ⟨yg, 0, none⟩) src.funcs.length zc) /\ W'.cell? ⟨yg, k * 5 + 4, none⟩ = some (.slice vo vn vc) /\ W'.cell? ⟨xg, k * 5 + 4, none⟩ = some (.slice uo un uc) /\ W'.cell? ⟨yg, k * 5, none⟩ = some (.string nm) /\ W'.cell? ⟨xg, k * 5, none⟩ = some (.string nm))) (by kernel_rfl) ⟨by simp only [World.cell?_drew]; assumption, by simp only [World.cell?_drew]; assumption, by simp only [World.cell?_drew]; assumption, by simp only [World.cell?_drew]; assumption, by simp only [World.cell?_drew]; assumption, by simp only [World.cell?_drew]; assumption⟩ (fun hHeld => ?_)
    refine tk 0 41 (.pointer (some ⟨yb, 1, none⟩)) rfl (.inl ⟨by rfl, ?_⟩) hHeld ?_
    ·intro W9 hSW; (try dsimp only at hSW); go_simp
    try simp only [Act.put, sA, sB, sC]
    refine tk 1 42 (.slice (some ⟨yg, 0, none⟩) src.funcs.length zc) rfl (.inl ⟨by rfl, ?_⟩) hHeld ?_
    ·intro W9 hSW; (try dsimp only at hSW); go_simp
    try simp only [Act.put, sA, sB, sC]
    refine tk 2 43 (.int .i64 (k : Nat)) rfl (.inl ⟨by rfl, ?_⟩) hHeld ?_
    ·intro W9 hSW; (try dsimp only at hSW); go_simp
    try simp only [Act.put, sA, sB, sC]
    refine tk 3 44 (.pointer (some ⟨yg, k * 5, none⟩)) rfl (.inl ⟨by rfl, ?_⟩) hHeld ?_
    ·intro W9 hSW; (try dsimp only at hSW); go_simp
    try simp only [Act.put, sA, sB, sC]
    refine tk 4 45 (.pointer (some ⟨yg, k * 5 + 4, none⟩)) rfl (.inl ⟨by rfl, ?_⟩) hHeld ?_
    ·intro W9 hSW; (try dsimp only at hSW); go_simp
    try simp only [Act.put, sA, sB, sC]
    refine tk 5 46 (.slice vo vn vc) rfl (.inl ⟨by rfl, ?_⟩) hHeld ?_
    ·intro W9 hSW; (try dsimp only at hSW); go_simp
    try simp only [Act.put, sA, sB, sC]
    refine tk 7 48 (.pointer (some ⟨xb, 1, none⟩)) rfl (.inl ⟨by rfl, ?_⟩) hHeld ?_
    ·intro W9 hSW; (try dsimp only at hSW); go_simp
    try simp only [Act.put, sA, sB, sC]
    refine tk 8 49 (.slice (some ⟨xg, 0, none⟩) src.funcs.length fc) rfl (.inl ⟨by rfl, ?_⟩) hHeld ?_
    ·intro W9 hSW; (try dsimp only at hSW); go_simp
    try simp only [Act.put, sA, sB, sC]
    refine tk 9 50 (.int .i64 (k : Nat)) rfl (.inl ⟨by rfl, ?_⟩) hHeld ?_
    ·intro W9 hSW; (try dsimp only at hSW); go_simp
    try simp only [Act.put, sA, sB, sC]
    refine tk 10 51 (.pointer (some ⟨xg, k * 5, none⟩)) rfl (.inl ⟨by rfl, ?_⟩) hHeld ?_
    ·intro W9 hSW; (try dsimp only at hSW); go_simp
    try simp only [Act.put, sA, sB, sC]
    refine tk 11 52 (.pointer (some ⟨xg, k * 5 + 4, none⟩)) rfl (.inl ⟨by rfl, ?_⟩) hHeld ?_
    ·intro W9 hSW; (try dsimp only at hSW); go_simp
    try simp only [Act.put, sA, sB, sC]
    refine tk 12 53 (.slice uo un uc) rfl (.inl ⟨by rfl, ?_⟩) hHeld ?_
    ·intro W9 hSW; (try dsimp only at hSW); go_simp
    try simp only [Act.put, sA, sB, sC]
    refine ra 6 (some 47) rfl fun K hK => ?_
    go_simp
    go_at_call 34
    refine (HD1.out _ HBE.out).mono ?_
    rintro e w7 ⟨rfl, hb7⟩
    have HB7 := zz (HBE.out.trans (hb7.mono HBE.out.size))
    have d7 := HC.out w7 HB7.out
    clear hb7
    refine hK.out _ _ d7 (fun hHeld => ?_)
    clear hK K d7
    refine ra 13 (some 54) rfl fun K hK => ?_
    go_simp
    go_at_call 34
    refine (HD2.out _ HB7.out).mono ?_
    rintro e w8 ⟨rfl, hb8⟩
    have HB8 := zz (HB7.out.trans (hb8.mono HB7.out.size))
    have d8 := HC.out w8 HB8.out
    clear hb8
    refine hK.out _ _ d8 (fun hHeld => ?_)
    clear hK K d8
    refine tk 14 55 (.bool false) rfl (.inl ⟨by rfl, ?_⟩) hHeld ?_
    ·intro W9 hSW; (try dsimp only at hSW); go_simp
    try simp only [Act.put, sA, sB, sC]
    refine tk 15 56 (.bool false) rfl (.inl ⟨by rfl, ?_⟩) hHeld ?_
    ·intro W9 hSW; (try dsimp only at hSW); go_simp
    try simp only [Act.put, sA, sB, sC]
    refine tk 16 57 (.pointer (some ⟨yb, 1, none⟩)) rfl (.inl ⟨by rfl, ?_⟩) hHeld ?_
    ·intro W9 hSW; (try dsimp only at hSW); go_simp
    try simp only [Act.put, sA, sB, sC]
    refine tk 17 58 (.slice (some ⟨yg, 0, none⟩) src.funcs.length zc) rfl (.inl ⟨by rfl, ?_⟩) hHeld ?_
    ·intro W9 hSW; (try dsimp only at hSW); go_simp
    try simp only [Act.put, sA, sB, sC]
    refine tk 18 59 (.int .i64 (k : Nat)) rfl (.inl ⟨by rfl, ?_⟩) hHeld ?_
    ·intro W9 hSW; (try dsimp only at hSW); go_simp
    try simp only [Act.put, sA, sB, sC]
    refine tk 19 60 (.pointer (some ⟨yg, k * 5, none⟩)) rfl (.inl ⟨by rfl, ?_⟩) hHeld ?_
    ·intro W9 hSW; (try dsimp only at hSW); go_simp
    try simp only [Act.put, sA, sB, sC]
    refine tk 20 61 (.pointer (some ⟨yg, k * 5, none⟩)) rfl (.inl ⟨by rfl, ?_⟩) hHeld ?_
    ·intro W9 hSW; (try dsimp only at hSW); go_simp
    try simp only [Act.put, sA, sB, sC]
    refine tk 21 62 (.string nm) rfl (.inl ⟨by rfl, ?_⟩) hHeld ?_
    ·intro W9 hSW; (try dsimp only at hSW); go_simp
    try simp only [Act.put, sA, sB, sC]
    refine tk 22 63 (.pointer (some ⟨xb, 1, none⟩)) rfl (.inl ⟨by rfl, ?_⟩) hHeld ?_
    ·intro W9 hSW; (try dsimp only at hSW); go_simp
    try simp only [Act.put, sA, sB, sC]
    refine tk 23 64 (.slice (some ⟨xg, 0, none⟩) src.funcs.length fc) rfl (.inl ⟨by rfl, ?_⟩) hHeld ?_
    ·intro W9 hSW; (try dsimp only at hSW); go_simp
    try simp only [Act.put, sA, sB, sC]
    refine tk 24 65 (.int .i64 (k : Nat)) rfl (.inl ⟨by rfl, ?_⟩) hHeld ?_
    ·intro W9 hSW; (try dsimp only at hSW); go_simp
    try simp only [Act.put, sA, sB, sC]
    refine tk 25 66 (.pointer (some ⟨xg, k * 5, none⟩)) rfl (.inl ⟨by rfl, ?_⟩) hHeld ?_
    ·intro W9 hSW; (try dsimp only at hSW); go_simp
    try simp only [Act.put, sA, sB, sC]
    refine tk 26 67 (.pointer (some ⟨xg, k * 5, none⟩)) rfl (.inl ⟨by rfl, ?_⟩) hHeld ?_
    ·intro W9 hSW; (try dsimp only at hSW); go_simp
    try simp only [Act.put, sA, sB, sC]
    refine tk 27 68 (.string nm) rfl (.inl ⟨by rfl, ?_⟩) hHeld ?_
    ·intro W9 hSW; (try dsimp only at hSW); go_simp
    try simp only [Act.put, sA, sB, sC]
    refine tk 28 69 (.bool false) rfl (.inl ⟨by rfl, ?_⟩) hHeld ?_
    ·intro W9 hSW; (try dsimp only at hSW); go_simp
    try simp only [Act.put, sA, sB, sC]
    refine tk 29 70 (.bool false) rfl (.inl ⟨by rfl, ?_⟩) hHeld ?_
    ·intro W9 hSW; (try dsimp only at hSW); go_simp
    try simp only [Act.put, sA, sB, sC]
    refine wpAnyH_done (by kernel_rfl) ?_ _
    clear hHeld s1 s2 s3 s4 s5 s6 hgt
    go_wp2_with fail
    exact ⟨⟨k + 1, by omega, by go_num, HBL.out.trans (HB8.out.mono HBL.out.size)⟩, by simp [intOf]; omega⟩
   ·have hki : ¬ (k : Int) < (src.funcs.length : Int) := by omega
    go_wp2_with fail
    try simp only [Exit.inBlock, Exit.then]
    go_ret
    exact ⟨rfl, HB4.out.trans (HBL.out.mono HB4.out.size)⟩
 ·go_wp2_with fail
  go_ret
  exact ⟨rfl, HB2.out.trans ((eA w2 #[.slice none 0 0, .slice none 0 0] 26).mono HB2.out.size)⟩
end Go.Proofs.YtnpapppipccdbaaGreatDoor
namespace Go.Proofs.YtnpapppipccdbaaGreatDoor
open Go.ChangeShapes Go.WideShapes Go.RowKit
namespace OfFoldFewer
theorem KT : laidOutB Tryz.checked.prog = true := by kernel_rfl
theorem KU : mapsRowed Tryz.checked.prog = true := by kernel_rfl
theorem LE : namedTie Tryz.checked.prog Rows.foldFewerRow.named Rows.foldFewerSpec.vars = true := by kernel_rfl
theorem jIn : Tryz.checked.prog.inPlace 9 = Rows.foldFewerRow.inPlace := by kernel_rfl
theorem jUn : Tryz.checked.prog.unfollowed 9 = Rows.foldFewerRow.unfollowed := by kernel_rfl
theorem LF : Tryz.checked.prog.recurses 9 = Rows.foldFewerRow.recurses := by kernel_rfl
theorem KV : Tryz.checked.prog.varsNamed 9 = Rows.foldFewerRow.named := by kernel_rfl
theorem KC : Tryz.checked.prog.stopsHeard = true := by kernel_rfl
theorem KD : Tryz.checked.prog.mayEnter = true := by kernel_rfl
theorem KW : Tryz.checked.prog.liftsFinal = Rows.foldFewerRow.lifted := by kernel_rfl
theorem KX : Tryz.checked.prog.make = some Rows.foldFewerRow.make := by kernel_rfl
theorem joined : joinedFacts Tryz.checked.prog 9 Tryz.f9 Rows.foldFewerSpec Rows.foldFewerRow = true := by
 unfold joinedFacts
 rw [KT, KU, LE, jIn, jUn, LF, KV, KC, KD, KW, KX]
 kernel_rfl
theorem fnm : Tryz.checked.prog.funcNamed Rows.foldFewerRow.func = some 9 := by kernel_rfl
theorem LG : Tryz.f9.isInstance Tryz.checked.prog Rows.foldFewerRow.origin Rows.foldFewerRow.targs := of_decide_eq_true (by kernel_rfl)
theorem wrap : Tryz.f9.isWrapper Tryz.checked.prog Rows.foldFewerRow.wrapper Rows.foldFewerRow.mainSum := by unfold Func.isWrapper; first | (rw [if_pos (by decide +kernel)]; kernel_rfl) | (rw [if_neg (by decide +kernel)]; exact ⟨rfl, rfl⟩)
end OfFoldFewer
end Go.Proofs.YtnpapppipccdbaaGreatDoor
