/-
  Texts of one proof, in build order: What is written of a function, of a program, is read as it. | What the text of a program is cut into. | .. a function, a program: what is written is cut, and read, as it was. | What a reader makes is such as is written and read again. | .. statements, functions, programs. | The walk of the law TreeAgain.
-/
import Derived.Test.YtgonbmcojjcabaaGreatDoorAg11
namespace Go.Proofs.YtgonbmcojjcabaaGreatDoor
open Lx Tr
namespace Tr

def paT : Bool → List Pa → List (Nat × B)
  | _, [] => []
  | f, p :: ps => (if f then [] else [(4, [44])]) ++ ([(1, p.name), (2, kindB p.kind)] ++ paT false ps)
def fuT (g : Fu) : List (Nat × B) := (2, tFunc) :: (1, g.name) :: (4, [40]) :: (paT true g.params ++ ((4, [41]) :: ((if g.kind = 0 then [] else [(2, kindB g.kind)]) ++ ((4, tLb) :: (stsT g.body ++ ((4, tRb) :: nlT))))))
def glT (g : Gl) : List (Nat × B) := [(2, tVar), (1, g.name), (5, [10])]
def srcT (s : Src) : List (Nat × B) := s.globals.flatMap glT ++ s.funcs.flatMap fuT
def GoodP (p : Pa) : Prop := WordT 1 p.name ∧ 1 ≤ p.kind ∧ p.kind ≤ 3
structure GoodF (g : Fu) : Prop where
  name : WordT 1 g.name
  params : ∀ p ∈ g.params, GoodP p
  kind : g.kind ≤ 3
  body : GoodSs g.body 1
structure GoodSrc (s : Src) : Prop where
  gls : ∀ g ∈ s.globals, WordT 1 g.name
  fus : ∀ g ∈ s.funcs, GoodF g
  ng : s.globals.length ≤ 8
  nf : s.funcs.length ≤ 12
theorem kindV_B : ∀ k, 1 ≤ k → k ≤ 3 → kindV (kindB k) = k ∧ kindB k ≠ [41] := by
  intro k h1 h3
  rcases (by omega : k = 1 ∨ k = 2 ∨ k = 3) with rfl | rfl | rfl <;> decide
theorem takeKind_ev {E : Env} {k n : Nat} (h : (pk E n).kind = k) : takeKind E k n = .ok (pk E n) (n + 1) := by unfold takeKind; rw [if_pos h]
theorem params_rd {E : Env} : ∀ (ps : List Pa) (acc acc' : List Pa) (n : Nat), ps ≠ [] → (∀ p ∈ ps, GoodP p) → acc'.map paE = acc.map paE → At E n (paT true ps ++ [(4, [41])]) → ∃ l, l.map paE = (acc ++ ps).map paE ∧ Ev (fun f => params E f acc' n) (.ok l (n + (paT true ps).length + 1))
  | [], _, _, _, h, _, _, _ => absurd rfl h
  | [p], acc, acc', n, _, hg, he, ha => by
    have ha' : At E n ((1, p.name) :: (2, kindB p.kind) :: (4, [41]) :: []) := ha
    obtain ⟨g1, g2, g3⟩ := hg p (List.mem_cons_self ..)
    obtain ⟨k1, k2⟩ := kindV_B p.kind g2 g3
    have h1 := ha'.head
    have h2 := ha'.tail.head
    have h3 := ha'.tail.tail.head
    refine ⟨acc' ++ [⟨(pk E n).text, kindV (pk E (n + 1)).text, (pk E n).at_⟩], ?_, Ev.now (fun e => by cases e) fun f => ?_⟩
    · rw [List.map_append, List.map_append, he, h1.2, h2.2, k1]; rfl
    · rw [paramsQ_eq, takeKind_ev h1.1]
      show (if kindV (pk E (n + 1)).text = 0 then _ else if (pk E (n + 1 + 1)).text = tComma then _ else _) = _
      rw [if_neg (by rw [h2.2, k1]; omega), if_neg (by rw [h3.2]; decide), take_ev (show (pk E (n + 1 + 1)).text = tRp from h3.2)]
      rfl
  | p :: q :: ps, acc, acc', n, _, hg, he, ha => by
    have ha' : At E n ((1, p.name) :: (2, kindB p.kind) :: (4, [44]) :: (paT true (q :: ps) ++ [(4, [41])])) := ha
    obtain ⟨g1, g2, g3⟩ := hg p (List.mem_cons_self ..)
    obtain ⟨k1, k2⟩ := kindV_B p.kind g2 g3
    have h1 := ha'.head
    have h2 := ha'.tail.head
    have h3 := ha'.tail.tail.head
    obtain ⟨l, e, hev⟩ := params_rd (q :: ps) (acc ++ [p]) (acc' ++ [⟨(pk E n).text, kindV (pk E (n + 1)).text, (pk E n).at_⟩]) (n + 1 + 1 + 1) (by simp) (fun x hx => hg x (List.mem_cons_of_mem _ hx)) (by rw [List.map_append, List.map_append, he, h1.2, h2.2, k1]; rfl) ha'.tail.tail.tail
    refine ⟨l, by rw [e]; simp, Ev.step (h := fun f => params E f (acc' ++ [⟨(pk E n).text, kindV (pk E (n + 1)).text, (pk E n).at_⟩]) (n + 1 + 1 + 1)) (fun f => ?_) ?_⟩
    · rw [paramsQ_eq, takeKind_ev h1.1]
      show (if kindV (pk E (n + 1)).text = 0 then _ else if (pk E (n + 1 + 1)).text = tComma then _ else _) = _
      rw [if_neg (by rw [h2.2, k1]; omega), if_pos (show (pk E (n + 1 + 1)).text = tComma from h3.2)]
    · have hl : n + (paT true (p :: q :: ps)).length + 1 = n + 1 + 1 + 1 + (paT true (q :: ps)).length + 1 := by
        show n + ((1, p.name) :: (2, kindB p.kind) :: (4, [44]) :: paT true (q :: ps)).length + 1 = _
        simp only [List.length_cons]; omega
      rw [hl]
      exact hev
theorem fu_rd {E : Env} {n : Nat} {g : Fu} (hg : GoodF g) (ha : At E n (fuT g)) : ∃ g' m, fuE g' = fuE g ∧ m + 1 = n + (fuT g).length ∧ (pk E m).kind = 5 ∧ Ev (fun f => Tr.function E f n) (.ok g' m) := by
  unfold fuT at ha ⊢
  have h1 := ha.head
  have h2 := ha.tail.head
  have h3 := ha.tail.tail.head
  have h4 := ha.tail.tail.tail
  have h5 := h4.right
  obtain ⟨ps, e1, hps⟩ : ∃ ps, ps.map paE = g.params.map paE ∧ Ev (fun f => if (pk E (n + 1 + 1 + 1)).text = tRp then Res.ok [] (n + 1 + 1 + 1 + 1) else params E f [] (n + 1 + 1 + 1)) (.ok ps (n + 1 + 1 + 1 + (paT true g.params).length + 1)) := by
    cases hp : g.params with
    | nil =>
      rw [hp] at h4
      have h6 := (At.head (k := 4) (t := [41]) (ks := _) h4).2
      exact ⟨[], rfl, Ev.pure (fun e => by cases e) fun f => by rw [if_pos (show (pk E (n + 1 + 1 + 1)).text = tRp from h6)]; rfl⟩
    | cons p ps =>
      rw [hp] at h4
      obtain ⟨l, e, hev⟩ := params_rd (E := E) (p :: ps) [] [] (n + 1 + 1 + 1) (by simp) (fun x hx => hg.params x (by rw [hp]; exact hx)) rfl (At.left (k2 := (if g.kind = 0 then [] else [(2, kindB g.kind)]) ++ ((4, tLb) :: (stsT g.body ++ ((4, tRb) :: nlT)))) (by rw [List.append_assoc]; exact h4))
      refine ⟨l, e, Ev.step' (fun f => ?_) hev⟩
      have h6 : (pk E (n + 1 + 1 + 1)).text = p.name := (At.head (k := 1) (t := p.name) (ks := _) h4).2
      rw [if_neg]
      rw [h6]
      exact word_no41 (hg.params p (by rw [hp]; exact List.mem_cons_self ..)).1
  have h6 := h5.tail
  obtain ⟨hk, hb⟩ : kindV (pk E (n + 1 + 1 + 1 + (paT true g.params).length + 1)).text = g.kind ∧ At E (if kindV (pk E (n + 1 + 1 + 1 + (paT true g.params).length + 1)).text = 0 then n + 1 + 1 + 1 + (paT true g.params).length + 1 else n + 1 + 1 + 1 + (paT true g.params).length + 1 + 1) ((4, tLb) :: (stsT g.body ++ ((4, tRb) :: nlT))) := by
    by_cases h0 : g.kind = 0
    · rw [if_pos h0] at h6
      have h7 : At E (n + 1 + 1 + 1 + (paT true g.params).length + 1) ((4, tLb) :: (stsT g.body ++ ((4, tRb) :: nlT))) := h6
      have e : kindV (pk E (n + 1 + 1 + 1 + (paT true g.params).length + 1)).text = 0 := by rw [h7.head.2]; decide
      rw [if_pos e]
      exact ⟨by rw [e, h0], h7⟩
    · rw [if_neg h0] at h6
      have h7 : At E (n + 1 + 1 + 1 + (paT true g.params).length + 1) ((2, kindB g.kind) :: (4, tLb) :: (stsT g.body ++ ((4, tRb) :: nlT))) := h6
      have e : kindV (pk E (n + 1 + 1 + 1 + (paT true g.params).length + 1)).text = g.kind := by rw [h7.head.2]; exact (kindV_B g.kind (by omega) hg.kind).1
      rw [if_neg (by rw [e]; exact h0)]
      exact ⟨e, h7.tail⟩
  obtain ⟨ys, e2, hev2, h8⟩ := block_rd (sts_all' g.body) (by decide) hg.body hb
  refine ⟨⟨(pk E (n + 1)).text, (pk E (n + 1)).at_, ps, kindV (pk E (n + 1 + 1 + 1 + (paT true g.params).length + 1)).text, ys⟩, _, ?_, ?_, h8.head.1, Ev.step' (h := fun f => (if (pk E (n + 1 + 1 + 1)).text = tRp then Res.ok [] (n + 1 + 1 + 1 + 1) else params E f [] (n + 1 + 1 + 1)).bind fun ps n4 => (block E f 0 (if kindV (pk E n4).text = 0 then n4 else n4 + 1)).bind fun b n5 => .ok ⟨(pk E (n + 1)).text, (pk E (n + 1)).at_, ps, kindV (pk E n4).text, b⟩ n5) (fun f => ?_) (Ev.then hps (Ev.then hev2 (Ev.pure (fun e => by cases e) fun f => rfl)))⟩
  · unfold fuE
    simp only
    rw [e1, e2, hk, h2.2]
  · by_cases h0 : g.kind = 0
    · rw [hk, if_pos h0, if_pos h0]
      simp only [List.length_cons, List.length_append, nlT, List.length_nil]; omega
    · rw [hk, if_neg h0, if_neg h0]
      simp only [List.length_cons, List.length_append, nlT, List.length_nil]; omega
  · unfold Tr.function
    rw [take_ev (show (pk E n).text = tFunc from h1.2)]
    show (takeKind E 1 (n + 1)).bind _ = _
    rw [takeKind_ev h2.1]
    show (take E tLp (n + 1 + 1)).bind _ = _
    rw [take_ev (show (pk E (n + 1 + 1)).text = tLp from h3.2)]
    rfl
theorem fus_rd {E : Env} {gs : List Gl} : ∀ (l : List Fu) (fs : List Fu) (n : Nat), (∀ g ∈ l, GoodF g) → fs.length + l.length ≤ 12 → At E n (l.flatMap fuT) → E.toks.length = n + (l.flatMap fuT).length → ∃ l', l'.map fuE = l.map fuE ∧ Ev (fun f => Tr.program E f ⟨gs, fs⟩ n) (.ok ⟨gs, fs ++ l'⟩ E.toks.length)
  | [], fs, n, _, _, _, hl => ⟨[], rfl, Ev.now (fun e => by cases e) fun f => by
      have hl' : E.toks.length = n := hl
      rw [programQ_eq, if_pos (by omega), List.append_nil, hl']⟩
  | g :: l, fs, n, hg, hlen, ha, hl => by
    rw [List.flatMap_cons] at ha hl
    obtain ⟨g', m, e, hm, hk, hev⟩ := fu_rd (hg g (List.mem_cons_self ..)) ha.left
    have h2 : At E (m + 1) (l.flatMap fuT) := by rw [hm]; exact ha.right
    rw [List.length_append] at hl
    have hlen' : fs.length + (l.length + 1) ≤ 12 := hlen
    obtain ⟨l', e2, hev2⟩ := fus_rd (gs := gs) l (fs ++ [g']) (m + 1) (fun x hx => hg x (List.mem_cons_of_mem _ hx)) (by simp; omega) h2 (by omega)
    have h1 : (pk E n).text = tFunc := (At.head (k := 2) (ks := _) ha.left).2
    have hpos : 0 < (fuT g).length := by unfold fuT; simp
    refine ⟨g' :: l', by rw [List.map_cons, List.map_cons, e, e2], Ev.step (h := fun f => (Tr.function E f n).bind fun g m => (takeKind E 5 m).bind fun _ m2 => Tr.program E f ⟨gs, fs ++ [g]⟩ m2) (fun f => ?_) (Ev.then hev (Ev.step' (h := fun f => Tr.program E f ⟨gs, fs ++ [g']⟩ (m + 1)) (fun f => ?_) ?_))⟩
    · rw [programQ_eq, if_neg (by omega), if_neg (by rw [h1]; decide), if_pos h1, if_neg (by show ¬ 12 ≤ fs.length; omega)]
    · rw [takeKind_ev hk]
      rfl
    · rw [List.append_assoc] at hev2
      exact hev2
theorem gls_rd {E : Env} {fl : List Fu} (hf : ∀ g ∈ fl, GoodF g) (hfl : fl.length ≤ 12) : ∀ (l : List Gl) (gs : List Gl) (n : Nat), gs.length + l.length ≤ 8 → At E n (l.flatMap glT ++ fl.flatMap fuT) → E.toks.length = n + (l.flatMap glT ++ fl.flatMap fuT).length → ∃ l' fl', l'.map glE = l.map glE ∧ fl'.map fuE = fl.map fuE ∧ Ev (fun f => Tr.program E f ⟨gs, []⟩ n) (.ok ⟨gs ++ l', fl'⟩ E.toks.length)
  | [], gs, n, _, ha, hl => by
    obtain ⟨l', e, hev⟩ := fus_rd (gs := gs) fl [] n hf (by simpa using hfl) ha hl
    exact ⟨[], l', rfl, e, by rw [List.append_nil]; exact hev⟩
  | g :: l, gs, n, hlen, ha, hl => by
    have ha' : At E n ((2, tVar) :: (1, g.name) :: (5, [10]) :: (l.flatMap glT ++ fl.flatMap fuT)) := ha
    have hl' : E.toks.length = n + ((2, tVar) :: (1, g.name) :: (5, [10]) :: (l.flatMap glT ++ fl.flatMap fuT)).length := hl
    simp only [List.length_cons] at hl'
    have h1 := ha'.head
    have h2 := ha'.tail.head
    have h3 := ha'.tail.tail.head
    have hlen' : gs.length + (l.length + 1) ≤ 8 := hlen
    obtain ⟨l', fl', e, e2, hev⟩ := gls_rd hf hfl l (gs ++ [⟨(pk E (n + 1)).text, (pk E (n + 1)).at_⟩]) (n + 1 + 1 + 1) (by simp; omega) ha'.tail.tail.tail (by omega)
    refine ⟨⟨(pk E (n + 1)).text, (pk E (n + 1)).at_⟩ :: l', fl', by rw [List.map_cons, List.map_cons, e]; unfold glE; rw [h2.2], e2, Ev.step (h := fun f => Tr.program E f ⟨gs ++ [⟨(pk E (n + 1)).text, (pk E (n + 1)).at_⟩], []⟩ (n + 1 + 1 + 1)) (fun f => ?_) ?_⟩
    · rw [programQ_eq, if_neg (by omega), if_pos h1.2, if_neg (by show ¬ 8 ≤ gs.length; omega), takeKind_ev h2.1]
      show (takeKind E 5 (n + 1 + 1)).bind _ = _
      rw [takeKind_ev h3.1]
      rfl
    · rw [List.append_assoc] at hev
      exact hev
/-- What is written of a program is read as it. -/
theorem src_rd {ts : List Tok} {en : Nat} {s : Src} (hg : GoodSrc s) (ht : ts.map kt = srcT s) : ∃ s', s'.globals.map glE = s.globals.map glE ∧ s'.funcs.map fuE = s.funcs.map fuE ∧ Ev (fun f => Tr.program ⟨ts, en⟩ f ⟨[], []⟩ 0) (.ok s' ts.length) := by
  have ha : At ⟨ts, en⟩ 0 (srcT s) := fun i q hi => by
    rw [← ht, List.getElem?_map] at hi
    obtain ⟨t, h1, rfl⟩ := Option.map_eq_some_iff.1 hi
    rw [Nat.zero_add]
    unfold pk
    rw [h1]
    exact ⟨rfl, rfl⟩
  have hl : (⟨ts, en⟩ : Env).toks.length = 0 + (srcT s).length := by rw [← ht, List.length_map, Nat.zero_add]
  obtain ⟨l', fl', e1, e2, hev⟩ := gls_rd (E := ⟨ts, en⟩) hg.fus hg.nf s.globals [] 0 (by simpa using hg.ng) ha hl
  exact ⟨⟨l', fl'⟩, e1, e2, hev⟩
end Tr
end Go.Proofs.YtgonbmcojjcabaaGreatDoor

namespace Go.Proofs.YtgonbmcojjcabaaGreatDoor
open Lx Tr
namespace Tr

theorem Lz.ks {t r : B} {k k' : List (Nat × B)} {m : Bool → Bool} (h : Lz t k m r) (e : k = k') : Lz t k' m r := e ▸ h
theorem Lz.fl {t r : B} {k : List (Nat × B)} {m m' : Bool → Bool} (h : Lz t k m r) (e : ∀ b, m b = m' b) : Lz t k m' r := by
  have : m = m' := funext e
  exact this ▸ h
theorem pad_lz : ∀ (d : Nat) (r : B), Lz (padV d) [] id r
  | 0, r => Lz.nil r
  | d + 1, r => (pad_lz d ([32, 32] ++ r)).app (m2 := id) (k2 := []) (show Lz [32, 32] [] id r from (Lz.sp ([32] ++ r)).app (Lz.sp r))
theorem line_ends {d : Nat} {t r : B} {ks : List (Nat × B)} (h : Lz t ks (fun _ => true) (10 :: r)) : Lz (lineV d t) (ks ++ nlT) (fun _ => false) r := (pad_lz d ((t ++ [10]) ++ r)).app (Lz.line h)
theorem line_open {d : Nat} {t r : B} {ks : List (Nat × B)} (h : Lz t ks (fun _ => false) (10 :: r)) : Lz (lineV d t) ks (fun _ => false) r := (pad_lz d ((t ++ [10]) ++ r)).app (Lz.noline h)
theorem ex_cut {x : Ex} {d : Nat} (k : Nat) (h : GoodB x d) {r : B} (hr : BdR r) : Lz (exV k x) (exT k x) (fun _ => true) r := (((lex_ex x d h).w (least := k)).cut r hr)
theorem kw {t : B} (h : wordV t = t.length ∧ 0 < letV t ∧ isKeyV t = true) {r : B} (hr : BdR r) : Lz t [(2, t)] (fun _ => mayV 2 t) r := Lz.word (key_word h) hr
theorem sg {z x : B} {b : UInt8} (hz : z ∈ sigsL) (hb : isStop b = true) : Lz z [(4, z)] (fun _ => mayV 4 z) (b :: x) := Lz.sig (SigT.stop hz hb)
/-- An expression behind a word and a blank, up to the line's end. -/
theorem kw_ex {t : B} (h : wordV t = t.length ∧ 0 < letV t ∧ isKeyV t = true) {x : Ex} {d : Nat} (hx : GoodB x d) (r : B) : Lz (t ++ ([32] ++ exV 1 x)) ([(2, t)] ++ exT 1 x) (fun _ => true) (10 :: r) :=
  (kw h (BdR.cons bd_32)).app ((Lz.sp _).app (ex_cut 1 hx (BdR.cons bd_10)))
/-- .. and '{' behind it. -/
theorem kw_open {t : B} (h : wordV t = t.length ∧ 0 < letV t ∧ isKeyV t = true) {x : Ex} {d : Nat} (hx : GoodB x d) (r : B) : Lz (t ++ ([32] ++ (exV 1 x ++ ([32] ++ tLb)))) ([(2, t)] ++ (exT 1 x ++ [(4, tLb)])) (fun _ => false) (10 :: r) :=
  (kw h (BdR.cons bd_32)).app ((Lz.sp _).app ((ex_cut 1 hx (BdR.cons bd_32)).app ((Lz.sp _).app (Lz.sig (sig_lb _)))))
def nilS : Sts → Bool
  | .nil => true
  | .cons _ _ => false
def nilC : Cas → Bool
  | .nil => true
  | .cons _ _ => false
def StLz (s : St) : Prop := ∀ dep, GoodS s dep → ∀ d r, Lz (stV d s) (stT s) (fun _ => false) r
def StsLz (s : Sts) : Prop := ∀ dep, GoodSs s dep → ∀ d r, Lz (stsV d s) (stsT s) (fun m => if nilS s then m else false) r
def CaLz (s : Ca) : Prop := ∀ dep, GoodC s dep → ∀ d r, Lz (caV d s) (caT s) (fun _ => false) r
def CasLz (s : Cas) : Prop := ∀ dep, GoodCs s dep → ∀ d r, Lz (casV d s) (casT s) (fun m => if nilC s then m else false) r
theorem end_lz (d : Nat) (r : B) : Lz (lineV d cEnd) ((4, tRb) :: nlT) (fun _ => false) r := line_ends (ks := [(4, tRb)]) (Lz.sig (sig_rb _))

set_option maxHeartbeats 3200000 in
theorem st_lz {code a : Nat} {name : B} {dst val : Ex} {thn els : Sts} {cases : Cas} (hThn : StsLz thn) (hEls : StsLz els) (hCas : CasLz cases) : StLz (.mk code a name dst val thn els cases) := fun dep hg d r => by
  rw [GoodS] at hg
  rcases hg with ⟨rfl | rfl, hw, rfl, hv, rfl, rfl, rfl⟩ | ⟨rfl, rfl, hd, hv, rfl, rfl, rfl⟩ | ⟨rfl, rfl, rfl, hv, rfl, rfl, rfl⟩ | ⟨rfl | rfl, rfl, rfl, hv, rfl, rfl, rfl⟩ | ⟨rfl, rfl, rfl, hv, hc, rfl, rfl, rfl⟩ | ⟨rfl, rfl, rfl, hv, rfl, rfl, rfl⟩ | ⟨rfl | rfl, rfl, rfl, rfl, rfl, rfl, rfl⟩ | ⟨rfl, rfl, rfl, hv, hc, rfl, rfl, rfl⟩ | ⟨rfl, rfl, rfl, hv, hdp, hg1, hg2, rfl⟩ | ⟨rfl, rfl, rfl, hv, hdp, hg1, rfl, rfl⟩ | ⟨rfl, rfl, rfl, rfl, rfl, rfl, hdp, h6, hg1⟩
  · rw [show stV d (.mk 1 a name .nil val .nil .nil .nil) = lineV d (name ++ ([32] ++ (tLet ++ ([32] ++ exV 1 val)))) by rw [stV]; rfl, show stT (.mk 1 a name .nil val .nil .nil .nil) = ([(1, name)] ++ ([(4, tLet)] ++ exT 1 val)) ++ nlT by rw [stT]; rfl]
    exact line_ends ((Lz.word hw (BdR.cons bd_32)).app ((Lz.sp _).app ((sg (by decide) stop_32).app ((Lz.sp _).app (ex_cut 1 hv (BdR.cons bd_10))))))
  · rw [show stV d (.mk 2 a name .nil val .nil .nil .nil) = lineV d (name ++ ([32] ++ (tSet ++ ([32] ++ exV 1 val)))) by rw [stV]; rfl, show stT (.mk 2 a name .nil val .nil .nil .nil) = ([(1, name)] ++ ([(4, tSet)] ++ exT 1 val)) ++ nlT by rw [stT]; rfl]
    exact line_ends ((Lz.word hw (BdR.cons bd_32)).app ((Lz.sp _).app ((sg (by decide) stop_32).app ((Lz.sp _).app (ex_cut 1 hv (BdR.cons bd_10))))))
  · rw [show stV d (.mk 3 a [] dst val .nil .nil .nil) = lineV d (exV 6 dst ++ ([32] ++ (tArrow ++ ([32] ++ exV 1 val)))) by rw [stV]; rfl, show stT (.mk 3 a [] dst val .nil .nil .nil) = (exT 6 dst ++ ([(4, tArrow)] ++ exT 1 val)) ++ nlT by rw [stT]; simp]
    exact line_ends ((ex_cut 6 hd (BdR.cons bd_32)).app ((Lz.sp _).app ((sg (by decide) stop_32).app ((Lz.sp _).app (ex_cut 1 hv (BdR.cons bd_10))))))
  · rw [show stV d (.mk 4 a [] .nil val .nil .nil .nil) = lineV d (tClose ++ ([40] ++ (exV 1 val ++ [41]))) by rw [stV]; rfl, show stT (.mk 4 a [] .nil val .nil .nil .nil) = ([(2, tClose)] ++ ([(4, [40])] ++ (exT 1 val ++ [(4, [41])]))) ++ nlT by rw [stT]; rfl]
    exact line_ends ((kw (by decide) (BdR.cons bd_40)).app ((Lz.sig (sig_lp _)).app ((ex_cut 1 hv (BdR.cons bd_41)).app (Lz.sig (sig_rp _)))))
  · rw [show stV d (.mk 5 a [] .nil val .nil .nil .nil) = lineV d (tPrint ++ ([32] ++ exV 1 val)) by rw [stV]; rfl, show stT (.mk 5 a [] .nil val .nil .nil .nil) = ([(2, tPrint)] ++ exT 1 val) ++ nlT by rw [stT]; rfl]
    exact line_ends (kw_ex (by decide) hv r)
  · rw [show stV d (.mk 6 a [] .nil val .nil .nil .nil) = lineV d (tSleep ++ ([32] ++ exV 1 val)) by rw [stV]; rfl, show stT (.mk 6 a [] .nil val .nil .nil .nil) = ([(2, tSleep)] ++ exT 1 val) ++ nlT by rw [stT]; rfl]
    exact line_ends (kw_ex (by decide) hv r)
  · rw [show stV d (.mk 7 a [] .nil val .nil .nil .nil) = lineV d (tGo ++ ([32] ++ exV 1 val)) by rw [stV]; rfl, show stT (.mk 7 a [] .nil val .nil .nil .nil) = ([(2, tGo)] ++ exT 1 val) ++ nlT by rw [stT]; rfl]
    exact line_ends (kw_ex (by decide) hv r)
  · rcases hv with rfl | hv
    · rw [show stV d (.mk 8 a [] .nil .nil .nil .nil .nil) = lineV d tReturn by rw [stV]; rfl, show stT (.mk 8 a [] .nil .nil .nil .nil .nil) = [(2, tReturn)] ++ nlT by rw [stT]; rfl]
      exact line_ends (kw (by decide) (BdR.cons bd_10))
    · have e1 : stV d (.mk 8 a [] .nil val .nil .nil .nil) = lineV d (tReturn ++ ([32] ++ exV 1 val)) := by
        rw [stV]
        cases val with
        | nil => rw [GoodB] at hv; exact hv.elim
        | mk => rfl
      have e2 : stT (.mk 8 a [] .nil val .nil .nil .nil) = ([(2, tReturn)] ++ exT 1 val) ++ nlT := by
        rw [stT]
        cases val with
        | nil => rw [GoodB] at hv; exact hv.elim
        | mk => rfl
      rw [e1, e2]
      exact line_ends (kw_ex (by decide) hv r)
  · rw [show stV d (.mk 9 a [] .nil .nil .nil .nil .nil) = lineV d tBreak by rw [stV]; rfl, show stT (.mk 9 a [] .nil .nil .nil .nil .nil) = [(2, tBreak)] ++ nlT by rw [stT]; rfl]
    exact line_ends (kw (by decide) (BdR.cons bd_10))
  · rw [show stV d (.mk 10 a [] .nil .nil .nil .nil .nil) = lineV d tContinue by rw [stV]; rfl, show stT (.mk 10 a [] .nil .nil .nil .nil .nil) = [(2, tContinue)] ++ nlT by rw [stT]; rfl]
    exact line_ends (kw (by decide) (BdR.cons bd_10))
  · rw [show stV d (.mk 11 a [] .nil val .nil .nil .nil) = lineV d (exV 1 val) by rw [stV]; rfl, show stT (.mk 11 a [] .nil val .nil .nil .nil) = exT 1 val ++ nlT by rw [stT]; rfl]
    exact line_ends (ex_cut 1 hv (BdR.cons bd_10))
  · by_cases h0 : els.len = 0
    · rw [show stV d (.mk 12 a [] .nil val thn els .nil) = lineV d (tIf ++ ([32] ++ (exV 1 val ++ ([32] ++ tLb)))) ++ (stsV (d + 1) thn ++ lineV d cEnd) by rw [stV]; simp only [reduceIte, Nat.reduceEqDiff, h0]; rfl, show stT (.mk 12 a [] .nil val thn els .nil) = ([(2, tIf)] ++ (exT 1 val ++ [(4, tLb)])) ++ (stsT thn ++ ((4, tRb) :: nlT)) by rw [stT]; simp only [reduceIte, Nat.reduceEqDiff, h0]; simp]
      exact (line_open (kw_open (by decide) hv _)).app ((hThn _ hg1 (d + 1) _).app (end_lz d r))
    · rw [show stV d (.mk 12 a [] .nil val thn els .nil) = lineV d (tIf ++ ([32] ++ (exV 1 val ++ ([32] ++ tLb)))) ++ (stsV (d + 1) thn ++ (lineV d (tRb ++ ([32] ++ (tElse ++ ([32] ++ tLb)))) ++ (stsV (d + 1) els ++ lineV d cEnd))) by rw [stV]; simp only [reduceIte, Nat.reduceEqDiff, h0, List.append_assoc]; rfl, show stT (.mk 12 a [] .nil val thn els .nil) = ([(2, tIf)] ++ (exT 1 val ++ [(4, tLb)])) ++ (stsT thn ++ (([(4, tRb)] ++ ([(2, tElse)] ++ [(4, tLb)])) ++ (stsT els ++ ((4, tRb) :: nlT)))) by rw [stT]; simp only [reduceIte, Nat.reduceEqDiff, h0]; simp]
      exact (line_open (kw_open (by decide) hv _)).app ((hThn _ hg1 (d + 1) _).app ((line_open ((Lz.sig (sig_rb _)).app ((Lz.sp _).app ((kw (by decide) (BdR.cons bd_32)).app ((Lz.sp _).app (Lz.sig (sig_lb _))))))).app ((hEls _ hg2 (d + 1) _).app (end_lz d r))))
  · rw [show stV d (.mk 13 a [] .nil val thn .nil .nil) = lineV d (tFor ++ ([32] ++ (exV 1 val ++ ([32] ++ tLb)))) ++ (stsV (d + 1) thn ++ lineV d cEnd) by rw [stV]; rfl, show stT (.mk 13 a [] .nil val thn .nil .nil) = ([(2, tFor)] ++ (exT 1 val ++ [(4, tLb)])) ++ (stsT thn ++ ((4, tRb) :: nlT)) by rw [stT]; simp]
    exact (line_open (kw_open (by decide) hv _)).app ((hThn _ hg1 (d + 1) _).app (end_lz d r))
  · rw [show stV d (.mk 14 a [] .nil .nil .nil .nil cases) = lineV d (tSelect ++ ([32] ++ tLb)) ++ (casV d cases ++ lineV d cEnd) by rw [stV]; rfl, show stT (.mk 14 a [] .nil .nil .nil .nil cases) = ([(2, tSelect)] ++ [(4, tLb)]) ++ (casT cases ++ ((4, tRb) :: nlT)) by rw [stT]; rfl]
    exact (line_open ((kw (by decide) (BdR.cons bd_32)).app ((Lz.sp _).app (Lz.sig (sig_lb _))))).app ((hCas _ hg1 d _).app (end_lz d r))
theorem ca_lz {code a : Nat} {name : B} {dst val : Ex} {body : Sts} (hb : StsLz body) : CaLz (.mk code a name dst val body) := fun dep hg d r => by
  rw [GoodC] at hg
  obtain ⟨hg, hgb⟩ := hg
  have hbody := hb dep hgb (d + 1) r
  have fin : ∀ {t : B} {ks : List (Nat × B)}, Lz t ks (fun _ => false) (10 :: (stsV (d + 1) body ++ r)) → Lz (lineV d t ++ stsV (d + 1) body) (ks ++ stsT body) (fun _ => false) r := fun h => ((line_open h).app hbody).fl (fun b => by show (if nilS body then false else false) = false; split <;> rfl)
  rcases hg with ⟨rfl, rfl, hd, hv⟩ | ⟨rfl, rfl, hd, rfl⟩ | ⟨rfl, hw, hd, rfl⟩ | ⟨rfl, rfl, rfl, rfl⟩
  · rw [show caV d (.mk 3 a [] dst val body) = lineV d (tCase ++ ([32] ++ (exV 6 dst ++ ([32] ++ (tArrow ++ ([32] ++ (exV 1 val ++ tColon))))))) ++ stsV (d + 1) body by rw [caV]; unfold talkV sentV; rw [if_pos rfl]; simp [cCase, cColon, tCase, tArrow, tColon], show caT (.mk 3 a [] dst val body) = ([(2, tCase)] ++ (exT 6 dst ++ ([(4, tArrow)] ++ (exT 1 val ++ [(4, tColon)])))) ++ stsT body by rw [caT]; unfold talkT; rw [if_pos rfl]; simp]
    exact fin ((kw (by decide) (BdR.cons bd_32)).app ((Lz.sp _).app ((ex_cut 6 hd (BdR.cons bd_32)).app ((Lz.sp _).app ((sg (by decide) stop_32).app ((Lz.sp _).app ((ex_cut 1 hv (BdR.cons bd_58)).app (sg (by decide) stop_10))))))))
  · rw [show caV d (.mk 10 a [] dst .nil body) = lineV d (tCase ++ ([32] ++ (tArrow ++ (exV 6 dst ++ tColon)))) ++ stsV (d + 1) body by rw [caV]; unfold talkV; rw [if_neg (by decide), if_pos rfl, if_pos rfl]; simp [cCaseRecv, cColon, tCase, tArrow, tColon], show caT (.mk 10 a [] dst .nil body) = ([(2, tCase)] ++ ([(4, tArrow)] ++ (exT 6 dst ++ [(4, tColon)]))) ++ stsT body by rw [caT]; unfold talkT; rw [if_neg (by decide), if_pos rfl, if_pos rfl]; simp]
    exact fin ((kw (by decide) (BdR.cons bd_32)).app ((Lz.sp _).app ((Lz.sig (sig_arrow _)).app ((ex_cut 6 hd (BdR.cons bd_58)).app (sg (by decide) stop_10)))))
  · rw [show caV d (.mk 10 a name dst .nil body) = lineV d (tCase ++ ([32] ++ (name ++ ([32] ++ (tLet ++ ([32] ++ (tArrow ++ (exV 6 dst ++ tColon)))))))) ++ stsV (d + 1) body by rw [caV]; unfold talkV; rw [if_neg (by decide), if_pos rfl, if_neg hw.ne]; simp [cCase, cLetRecv, cColon, tCase, tArrow, tColon, tLet], show caT (.mk 10 a name dst .nil body) = ([(2, tCase)] ++ ([(1, name)] ++ ([(4, tLet)] ++ ([(4, tArrow)] ++ (exT 6 dst ++ [(4, tColon)]))))) ++ stsT body by rw [caT]; unfold talkT; rw [if_neg (by decide), if_pos rfl, if_neg hw.ne]; simp]
    exact fin ((kw (by decide) (BdR.cons bd_32)).app ((Lz.sp _).app ((Lz.word hw (BdR.cons bd_32)).app ((Lz.sp _).app ((sg (by decide) stop_32).app ((Lz.sp _).app ((Lz.sig (sig_arrow _)).app ((ex_cut 6 hd (BdR.cons bd_58)).app (sg (by decide) stop_10)))))))))
  · rw [show caV d (.mk 40 a [] .nil .nil body) = lineV d (tDefault ++ tColon) ++ stsV (d + 1) body by rw [caV]; rfl, show caT (.mk 40 a [] .nil .nil body) = ([(2, tDefault)] ++ [(4, tColon)]) ++ stsT body by rw [caT]; rfl]
    exact fin ((kw (by decide) (BdR.cons bd_58)).app (sg (by decide) stop_10))
mutual
theorem st_lzs : ∀ s : St, StLz s
  | .mk _ _ _ _ _ thn els cases => st_lz (sts_lzs thn) (sts_lzs els) (cas_lzs cases)
theorem sts_lzs : ∀ xs : Sts, StsLz xs
  | .nil => fun _ _ d r => by rw [stsV, stsT]; exact Lz.nil r
  | .cons x xs => fun dep hg d r => by
    rw [GoodSs] at hg
    rw [stsV, stsT]
    exact ((st_lzs x dep hg.1 d _).app (sts_lzs xs dep hg.2 d r)).fl (fun b => by show (if nilS xs then false else false) = false; split <;> rfl)
theorem ca_lzs : ∀ c : Ca, CaLz c
  | .mk _ _ _ _ _ body => ca_lz (sts_lzs body)
theorem cas_lzs : ∀ xs : Cas, CasLz xs
  | .nil => fun _ _ d r => by rw [casV, casT]; exact Lz.nil r
  | .cons x xs => fun dep hg d r => by
    rw [GoodCs] at hg
    rw [casV, casT]
    exact ((ca_lzs x dep hg.1 d _).app (cas_lzs xs dep hg.2 d r)).fl (fun b => by show (if nilC xs then false else false) = false; split <;> rfl)
end
end Tr
end Go.Proofs.YtgonbmcojjcabaaGreatDoor

namespace Go.Proofs.YtgonbmcojjcabaaGreatDoor
open Lx Tr
namespace Tr

theorem kind_word : ∀ k, 1 ≤ k → k ≤ 3 → WordT 2 (kindB k) := by
  intro k h1 h3
  rcases (by omega : k = 1 ∨ k = 2 ∨ k = 3) with rfl | rfl | rfl <;> exact key_word (by decide)
def nilP : List Pa → Bool
  | [] => true
  | _ :: _ => false
theorem par_bd (ps : List Pa) {r : B} (hr : BdR r) : BdR (parL false ps ++ r) := by
  cases ps with
  | nil => exact hr
  | cons p ps => exact BdR.cons bd_44
theorem par_lz : ∀ (ps : List Pa) (f : Bool) (r : B), (∀ p ∈ ps, GoodP p) → BdR r → Lz (parL f ps) (paT f ps) (fun m => if nilP ps then m else true) r
  | [], _, r, _, _ => Lz.nil r
  | p :: ps, f, r, hg, hr => by
    obtain ⟨g1, g2, g3⟩ := hg p (List.mem_cons_self ..)
    have hm : mayV 2 (kindB p.kind) = true := by rcases (by omega : p.kind = 1 ∨ p.kind = 2 ∨ p.kind = 3) with h | h | h <;> rw [h] <;> decide
    have k0 := (Lz.word g1 (r := [32] ++ (kindB p.kind ++ (parL false ps ++ r))) (BdR.cons bd_32)).app (t2 := [32] ++ kindB p.kind) (r := parL false ps ++ r) ((Lz.sp _).app (Lz.word (kind_word p.kind g2 g3) (par_bd ps hr)))
    have k1 : Lz (paV p) [(1, p.name), (2, kindB p.kind)] (fun _ => true) (parL false ps ++ r) := k0.fl (fun _ => hm)
    have k2 := par_lz ps false r (fun x hx => hg x (List.mem_cons_of_mem _ hx)) hr
    have k3 : Lz (paV p ++ parL false ps) ([(1, p.name), (2, kindB p.kind)] ++ paT false ps) (fun _ => true) r := (k1.app k2).fl (fun b => by show (if nilP ps then true else true) = true; split <;> rfl)
    cases f with
    | true => exact k3
    | false =>
      have k4 : Lz ([44] ++ [32]) ([(4, [44])] ++ []) (id ∘ fun _ => mayV 4 [44]) ((paV p ++ parL false ps) ++ r) := (Lz.sig (sig_comma _)).app (Lz.sp _)
      exact k4.app k3
theorem fu_lz {g : Fu} (hg : GoodF g) (r : B) : Lz (fuV g) (fuT g) (fun _ => false) r := by
  have hend := (sts_lzs g.body 1 hg.body 1 (lineV 0 cEnd ++ r)).app (end_lz 0 r)
  have hhead : ∀ {K : B} {ks : List (Nat × B)} {m : Bool → Bool}, (∀ q, BdR ([32] ++ (K ++ (tLb ++ q)))) → (∀ q, Lz K ks m (tLb ++ q)) → Lz ((tFunc ++ ([32] ++ (g.name ++ ([40] ++ (parL true g.params ++ ([41] ++ ([32] ++ (K ++ tLb)))))))) ++ [10]) ([(2, tFunc)] ++ ([(1, g.name)] ++ ([(4, [40])] ++ (paT true g.params ++ ([(4, [41])] ++ (ks ++ [(4, tLb)])))))) (fun _ => false) ((stsV 1 g.body ++ lineV 0 cEnd) ++ r) := fun hb hK =>
    Lz.noline ((kw (by decide) (BdR.cons bd_32)).app ((Lz.sp _).app ((Lz.word hg.name (BdR.cons bd_40)).app ((Lz.sig (sig_lp _)).app ((par_lz g.params true _ hg.params (BdR.cons bd_41)).app ((Lz.sig (sig_rp _)).app ((Lz.sp _).app ((hK _).app (Lz.sig (sig_lb _))))))))))
  by_cases h0 : g.kind = 0
  · have e1 : fuV g = ((tFunc ++ ([32] ++ (g.name ++ ([40] ++ (parL true g.params ++ ([41] ++ ([32] ++ ([] ++ tLb)))))))) ++ [10]) ++ (stsV 1 g.body ++ lineV 0 cEnd) := by
      unfold fuV
      rw [if_pos h0]
      simp [cFunc, tFunc, tLb]
    have e2 : fuT g = ([(2, tFunc)] ++ ([(1, g.name)] ++ ([(4, [40])] ++ (paT true g.params ++ ([(4, [41])] ++ ([] ++ [(4, tLb)])))))) ++ (stsT g.body ++ ((4, tRb) :: nlT)) := by
      unfold fuT
      rw [if_pos h0]
      simp
    rw [e1, e2]
    exact ((hhead (fun q => BdR.cons bd_32) (fun q => Lz.nil _)).app hend).fl (fun b => rfl)
  · have e1 : fuV g = ((tFunc ++ ([32] ++ (g.name ++ ([40] ++ (parL true g.params ++ ([41] ++ ([32] ++ ((kindB g.kind ++ [32]) ++ tLb)))))))) ++ [10]) ++ (stsV 1 g.body ++ lineV 0 cEnd) := by
      unfold fuV
      rw [if_neg h0]
      simp [cFunc, tFunc, tLb]
    have e2 : fuT g = ([(2, tFunc)] ++ ([(1, g.name)] ++ ([(4, [40])] ++ (paT true g.params ++ ([(4, [41])] ++ ([(2, kindB g.kind)] ++ [(4, tLb)])))))) ++ (stsT g.body ++ ((4, tRb) :: nlT)) := by
      unfold fuT
      rw [if_neg h0]
      simp
    rw [e1, e2]
    exact ((hhead (ks := [(2, kindB g.kind)] ++ []) (fun q => BdR.cons bd_32) (fun q => (Lz.word (kind_word g.kind (by omega) hg.kind) (BdR.cons bd_32)).app (Lz.sp _))).app hend).fl (fun b => rfl)
theorem gls_lz : ∀ (l : List Gl) (r : B), (∀ g ∈ l, WordT 1 g.name) → Lz (l.flatMap glV) (l.flatMap glT) (fun m => if l.isEmpty then m else false) r
  | [], r, _ => Lz.nil r
  | g :: l, r, hg => by
    have k1 : Lz (glV g) (glT g) (fun _ => false) (l.flatMap glV ++ r) := line_ends (ks := [(2, tVar), (1, g.name)]) ((kw (t := tVar) (by decide) (BdR.cons bd_32)).app ((Lz.sp _).app (Lz.word (hg g (List.mem_cons_self ..)) (BdR.cons bd_10))))
    rw [List.flatMap_cons, List.flatMap_cons]
    exact (k1.app (gls_lz l r (fun x hx => hg x (List.mem_cons_of_mem _ hx)))).fl (fun b => by show (if l.isEmpty then false else false) = false; split <;> rfl)
theorem fus_lz : ∀ (l : List Fu) (r : B), (∀ g ∈ l, GoodF g) → Lz (l.flatMap fuV) (l.flatMap fuT) (fun m => if l.isEmpty then m else false) r
  | [], r, _ => Lz.nil r
  | g :: l, r, hg => by
    rw [List.flatMap_cons, List.flatMap_cons]
    exact ((fu_lz (hg g (List.mem_cons_self ..)) _).app (fus_lz l r (fun x hx => hg x (List.mem_cons_of_mem _ hx)))).fl (fun b => by show (if l.isEmpty then false else false) = false; split <;> rfl)
/-- What is written of a program is cut into its tokens. -/
theorem src_lx {s : Src} (hg : GoodSrc s) : ∃ ts, lx (printV s) 0 false = (ts, none) ∧ ts.map kt = srcT s := by
  have h := ((gls_lz s.globals (s.funcs.flatMap fuV ++ []) hg.gls).app (fus_lz s.funcs [] hg.fus)) 0 false
  obtain ⟨ts, e, hl⟩ := h
  refine ⟨ts, ?_, e⟩
  rw [List.append_nil, lx_nil] at hl
  have hb : (((fun m => if s.funcs.isEmpty then m else false) ∘ fun m => if s.globals.isEmpty then m else false) false) = false := by
    show (if s.funcs.isEmpty then (if s.globals.isEmpty then false else false) else false) = false
    split
    · split <;> rfl
    · rfl
  rw [hb] at hl
  show lx (s.globals.flatMap glV ++ s.funcs.flatMap fuV) 0 false = _
  rw [hl]
  simp [endV]
end Tr
end Go.Proofs.YtgonbmcojjcabaaGreatDoor

namespace Go.Proofs.YtgonbmcojjcabaaGreatDoor
open Lx Tr
namespace Tr

theorem brk_le (k : Nat) (x : Ex) : brk k x ≤ brk (k + 1) x := by
  cases x with
  | nil => exact Nat.le_refl _
  | mk code a n op nm l r zs =>
    by_cases c : code = 5 ∧ levV op < k
    · rw [brk_yes c, brk_yes ⟨c.1, by have := c.2; omega⟩]; exact Nat.le_refl _
    · rw [brk_no c]; exact Nat.zero_le _
mutual
theorem good_mono : ∀ (x : Ex) (d e : Nat), e ≤ d → GoodB x d → GoodB x e
  | .nil, _, _, _, h => by rw [GoodB] at h; exact h.elim
  | .mk code a n op nm l r zs, d, e, he, h => by
    rw [GoodB] at h ⊢
    obtain ⟨hd, h⟩ := h
    refine ⟨by omega, ?_⟩
    rcases h with h | h | h | h | ⟨c, h0, h1, h2, hv, h3, h4⟩ | ⟨c, h0, h1, h2, h3, ho, h4⟩ | ⟨c, h0, h1, h2, h3, h4, h5⟩ | ⟨c, h0, h1, h2, h3, h4, h5⟩ | ⟨c, h0, h1, hw, h3, h4, h5⟩
    · exact Or.inl h
    · exact Or.inr (Or.inl h)
    · exact Or.inr (Or.inr (Or.inl h))
    · exact Or.inr (Or.inr (Or.inr (Or.inl h)))
    · exact Or.inr (Or.inr (Or.inr (Or.inr (Or.inl ⟨c, h0, h1, h2, hv, good_mono l _ _ (by omega) h3, good_mono r _ _ (by omega) h4⟩))))
    · exact Or.inr (Or.inr (Or.inr (Or.inr (Or.inr (Or.inl ⟨c, h0, h1, h2, h3, ho, good_mono l _ _ (by omega) h4⟩)))))
    · exact Or.inr (Or.inr (Or.inr (Or.inr (Or.inr (Or.inr (Or.inl ⟨c, h0, h1, h2, h3, h4, good_mono l _ _ (by omega) h5⟩))))))
    · exact Or.inr (Or.inr (Or.inr (Or.inr (Or.inr (Or.inr (Or.inr (Or.inl ⟨c, h0, h1, h2, h3, h4, good_mono l _ _ (by omega) h5⟩)))))))
    · exact Or.inr (Or.inr (Or.inr (Or.inr (Or.inr (Or.inr (Or.inr (Or.inr ⟨c, h0, h1, hw, h3, h4, goods_mono zs _ _ (by omega) h5⟩)))))))
theorem goods_mono : ∀ (zs : Exs) (d e : Nat), e ≤ d → GoodAs zs d → GoodAs zs e
  | .nil, _, _, _, _ => by rw [GoodAs]; trivial
  | .cons x xs, d, e, he, h => by
    rw [GoodAs] at h ⊢
    exact ⟨good_mono x d e he h.1, goods_mono xs d e he h.2⟩
end
structure TokOk (E : Env) : Prop where
  words : ∀ n, (pk E n).kind = 1 → WordT 1 (pk E n).text
  nums : ∀ n, (pk E n).kind = 3 → numV (pk E n).text ≤ 9223372036854775807
theorem goodAs_snoc : ∀ (xs : Exs) (y : Ex) (d : Nat), GoodAs xs d → GoodB y d → GoodAs (xs.snoc y) d
  | .nil, y, d, _, h => by rw [Exs.snoc, GoodAs, GoodAs]; exact ⟨h, trivial⟩
  | .cons x xs, y, d, h, h2 => by
    rw [GoodAs] at h
    rw [Exs.snoc, GoodAs]
    exact ⟨h.1, goodAs_snoc xs y d h.2 h2⟩
theorem good_leaf {E : Env} {code k d n : Nat} {nm : B} (hd : d ≤ 12) (h : (code = 1 ∧ k ≤ 9223372036854775807 ∧ nm = []) ∨ (code = 2 ∧ k ≤ 1 ∧ nm = []) ∨ (code = 3 ∧ k = 0 ∧ nm = []) ∨ (code = 4 ∧ k = 0 ∧ WordT 1 nm)) : GoodO (leaf code (pk E n).at_ k nm) d := by
  unfold GoodO leaf
  rw [brk_no (by rintro ⟨e, _⟩; rcases h with h | h | h | h <;> omega), GoodB]
  refine ⟨hd, ?_⟩
  rcases h with ⟨rfl, h1, rfl⟩ | ⟨rfl, h1, rfl⟩ | ⟨rfl, rfl, rfl⟩ | ⟨rfl, rfl, hw⟩
  · exact Or.inl ⟨rfl, h1, rfl, rfl, rfl, rfl, rfl⟩
  · exact Or.inr (Or.inl ⟨rfl, h1, rfl, rfl, rfl, rfl, rfl⟩)
  · exact Or.inr (Or.inr (Or.inl ⟨rfl, rfl, rfl, rfl, rfl, rfl, rfl⟩))
  · exact Or.inr (Or.inr (Or.inr (Or.inl ⟨rfl, rfl, rfl, hw, rfl, rfl, rfl⟩)))

structure Gds (E : Env) (f : Nat) : Prop where
  one : ∀ d n x m, one E f d n = .ok x m → GoodO x d
  bracketed : ∀ d n x m, bracketed E f d n = .ok x m → GoodB x (d + 1)
  tied : ∀ l d n x m, 1 ≤ l → l ≤ 6 → tied E f l d n = .ok x m → GoodB x (d + brk l x)
  tloop : ∀ l d a n x m, 1 ≤ l → l ≤ 5 → tloop E f l d a n = .ok x m → GoodB a (d + brk l a) → GoodB x (d + brk l x)
  named : ∀ d n x m, d ≤ 12 → (pk E n).kind = 1 → named E f d n = .ok x m → GoodO x d
  call : ∀ d t n x m, d ≤ 12 → WordT 1 t.text → call E f d t n = .ok x m → GoodO x d ∧ codeOf x = 7
  args : ∀ d a n x m, args E f d a n = .ok x m → GoodAs a (d + 1) → GoodAs x (d + 1)
set_option maxHeartbeats 3200000 in
theorem gds {E : Env} (hT : TokOk E) (f : Nat) : Gds E f := by
  induction f with
  | zero =>
    constructor
    · intro _ _ _ _ h; rw [Tr.one] at h; cases h
    · intro _ _ _ _ h; rw [Tr.bracketed] at h; cases h
    · intro _ _ _ _ _ _ _ h; rw [Tr.tied] at h; cases h
    · intro _ _ _ _ _ _ _ _ h; rw [Tr.tloop] at h; cases h
    · intro _ _ _ _ _ _ h; rw [Tr.named] at h; cases h
    · intro _ _ _ _ _ _ _ h; rw [Tr.call] at h; cases h
    · intro _ _ _ _ _ h; rw [Tr.args] at h; cases h
  | succ f ih =>
    constructor
    · intro d n x m h
      rw [Tr.one] at h
      by_cases c0 : 12 < d
      · rw [if_pos c0] at h; exact (fail_ok h).elim
      rw [if_neg c0] at h
      have hd : d ≤ 12 := by omega
      by_cases c1 : (pk E n).kind = 3
      · rw [if_pos c1] at h
        cases h
        exact good_leaf hd (Or.inl ⟨rfl, hT.nums n c1, rfl⟩)
      rw [if_neg c1] at h
      by_cases c2 : (pk E n).kind = 1
      · rw [if_pos c2] at h
        exact ih.named _ _ _ _ hd c2 h
      rw [if_neg c2] at h
      by_cases c3 : (pk E n).text = tLp
      · rw [if_pos c3] at h
        have q := ih.bracketed _ _ _ _ h
        refine good_mono x (d + 1) _ ?_ q
        cases x with
        | nil => exact Nat.le_succ _
        | mk code a k op nm l r zs =>
          by_cases c : code = 5 ∧ levV op < 6
          · rw [brk_yes c]; exact Nat.le_refl _
          · rw [brk_no c]; exact Nat.le_succ _
      rw [if_neg c3] at h
      by_cases c4 : (pk E n).text = [45] ∨ (pk E n).text = [94] ∨ (pk E n).text = [33]
      · rw [if_pos c4] at h
        obtain ⟨y, n1, h1, h⟩ := bind_ok h
        cases h
        unfold GoodO
        rw [brk_no (fun e => by cases e.1), GoodB]
        exact ⟨hd, Or.inr (Or.inr (Or.inr (Or.inr (Or.inr (Or.inl ⟨rfl, rfl, rfl, rfl, rfl, by rcases c4 with e | e | e <;> rw [e] <;> decide, ih.one _ _ _ _ h1⟩)))))⟩
      rw [if_neg c4] at h
      by_cases c5 : (pk E n).text = tArrow
      · rw [if_pos c5] at h
        obtain ⟨y, n1, h1, h⟩ := bind_ok h
        cases h
        unfold GoodO
        rw [brk_no (fun e => by cases e.1), GoodB]
        exact ⟨hd, Or.inr (Or.inr (Or.inr (Or.inr (Or.inr (Or.inr (Or.inl ⟨rfl, rfl, rfl, rfl, rfl, rfl, ih.one _ _ _ _ h1⟩))))))⟩
      rw [if_neg c5] at h
      by_cases c6 : (pk E n).text = tMake
      · rw [if_pos c6] at h
        obtain ⟨y, n1, h1, h⟩ := bind_ok h
        cases h
        unfold GoodO
        rw [brk_no (fun e => by cases e.1), GoodB]
        exact ⟨hd, Or.inr (Or.inr (Or.inr (Or.inr (Or.inr (Or.inr (Or.inr (Or.inl ⟨Or.inl rfl, rfl, rfl, rfl, rfl, rfl, ih.bracketed _ _ _ _ h1⟩)))))))⟩
      rw [if_neg c6] at h
      by_cases c7 : (pk E n).text = tLen
      · rw [if_pos c7] at h
        obtain ⟨y, n1, h1, h⟩ := bind_ok h
        cases h
        unfold GoodO
        rw [brk_no (fun e => by cases e.1), GoodB]
        exact ⟨hd, Or.inr (Or.inr (Or.inr (Or.inr (Or.inr (Or.inr (Or.inr (Or.inl ⟨Or.inr rfl, rfl, rfl, rfl, rfl, rfl, ih.bracketed _ _ _ _ h1⟩)))))))⟩
      rw [if_neg c7] at h
      by_cases c8 : (pk E n).text = tTrue
      · rw [if_pos c8] at h
        cases h
        exact good_leaf hd (Or.inr (Or.inl ⟨rfl, by omega, rfl⟩))
      rw [if_neg c8] at h
      by_cases c9 : (pk E n).text = tFalse
      · rw [if_pos c9] at h
        cases h
        exact good_leaf hd (Or.inr (Or.inl ⟨rfl, by omega, rfl⟩))
      rw [if_neg c9] at h
      by_cases c10 : (pk E n).text = tNil
      · rw [if_pos c10] at h
        cases h
        exact good_leaf hd (Or.inr (Or.inr (Or.inl ⟨rfl, rfl, rfl⟩)))
      rw [if_neg c10] at h
      exact (fail_ok h).elim
    · intro d n x m h
      rw [bracketed_eq] at h
      obtain ⟨_, n1, h1, h⟩ := bind_ok h
      obtain ⟨y, n2, h2, h⟩ := bind_ok h
      obtain ⟨_, n3, h3, h⟩ := bind_ok h
      cases h
      exact good_mono _ _ _ (Nat.le_add_right _ _) (ih.tied _ _ _ _ _ (by decide) (by decide) h2)
    · intro l d n x m hl1 hl6 h
      rw [tied_eq] at h
      by_cases c : l = 6
      · rw [if_pos c] at h
        rw [c]
        exact ih.one _ _ _ _ h
      · rw [if_neg c] at h
        obtain ⟨y, n1, h1, h⟩ := bind_ok h
        exact ih.tloop _ _ _ _ _ _ hl1 (by omega) h (good_mono _ _ _ (Nat.add_le_add_left (brk_le l y) d) (ih.tied _ _ _ _ _ (by omega) (by omega) h1))
    · intro l d a n x m hl1 hl5 h ha
      rw [tloop_eq] at h
      by_cases c : levV (opV (pk E n).text) = l
      · rw [if_pos c] at h
        obtain ⟨y, n1, h1, h⟩ := bind_ok h
        have q := ih.tied _ _ _ _ _ (by omega) (by omega) h1
        refine ih.tloop _ _ _ _ _ _ hl1 hl5 h ?_
        have hd : d ≤ 12 := by
          cases a with
          | nil => rw [GoodB] at ha; exact ha.elim
          | mk => rw [GoodB] at ha; have := ha.1; omega
        rw [brk_no (fun e => by have := e.2; omega), GoodB]
        exact ⟨hd, Or.inr (Or.inr (Or.inr (Or.inr (Or.inl ⟨rfl, rfl, rfl, rfl, by omega, by rw [c]; exact ha, by rw [c]; exact q⟩))))⟩
      · rw [if_neg c] at h
        cases h
        exact ha
    · intro d n x m hd hk h
      rw [named_eq] at h
      by_cases c : (pk E (n + 1)).text = tLp
      · rw [if_pos c] at h
        exact (ih.call _ _ _ _ _ hd (hT.words n hk) h).1
      · rw [if_neg c] at h
        cases h
        exact good_leaf hd (Or.inr (Or.inr (Or.inr ⟨rfl, rfl, hT.words n hk⟩)))
    · intro d t n x m hd ht h
      rw [call_eq] at h
      obtain ⟨_, n1, h1, h⟩ := bind_ok h
      have key : ∀ zs, GoodAs zs (d + 1) → GoodO (.mk 7 t.at_ 0 0 t.text .nil .nil zs) d := fun zs hz => by
        unfold GoodO
        rw [brk_no (fun e => by cases e.1), GoodB]
        exact ⟨hd, Or.inr (Or.inr (Or.inr (Or.inr (Or.inr (Or.inr (Or.inr (Or.inr ⟨rfl, rfl, rfl, ht, rfl, rfl, hz⟩)))))))⟩
      by_cases c : (pk E n1).text = tRp
      · rw [if_pos c] at h
        cases h
        exact ⟨key .nil (by rw [GoodAs]; trivial), rfl⟩
      · rw [if_neg c] at h
        obtain ⟨y, n2, h2, h⟩ := bind_ok h
        cases h
        exact ⟨key _ (ih.args _ _ _ _ _ h2 (by rw [GoodAs]; trivial)), rfl⟩
    · intro d a n x m h ha
      rw [args_eq] at h
      obtain ⟨y, n1, h1, h⟩ := bind_ok h
      have q := goodAs_snoc _ _ _ ha (good_mono _ _ _ (Nat.le_add_right _ _) (ih.tied _ _ _ _ _ (by decide) (by decide) h1))
      by_cases c : (pk E n1).text = tComma
      · rw [if_pos c] at h
        exact ih.args _ _ _ _ _ h q
      · rw [if_neg c] at h
        obtain ⟨_, n2, h2, h⟩ := bind_ok h
        cases h
        exact q
theorem good_expr {E : Env} (hT : TokOk E) {f d n m : Nat} {x : Ex} (h : expr E f d n = .ok x m) : GoodB x d := good_mono _ _ _ (Nat.le_add_right _ _) ((gds hT f).tied _ _ _ _ _ (by decide) (by decide) h)
end Tr
end Go.Proofs.YtgonbmcojjcabaaGreatDoor

namespace Go.Proofs.YtgonbmcojjcabaaGreatDoor
open Lx Tr
namespace Tr

theorem goodSs_snoc : ∀ (xs : Sts) (y : St) (d : Nat), GoodSs xs d → GoodS y d → GoodSs (xs.snoc y) d
  | .nil, y, d, _, h => by rw [Sts.snoc, GoodSs, GoodSs]; exact ⟨h, trivial⟩
  | .cons x xs, y, d, h, h2 => by
    rw [GoodSs] at h
    rw [Sts.snoc, GoodSs]
    exact ⟨h.1, goodSs_snoc xs y d h.2 h2⟩
theorem goodCs_snoc : ∀ (xs : Cas) (y : Ca) (d : Nat), GoodCs xs d → GoodC y d → GoodCs (xs.snoc y) d
  | .nil, y, d, _, h => by rw [Cas.snoc, GoodCs, GoodCs]; exact ⟨h, trivial⟩
  | .cons x xs, y, d, h, h2 => by
    rw [GoodCs] at h
    rw [Cas.snoc, GoodCs]
    exact ⟨h.1, goodCs_snoc xs y d h.2 h2⟩
theorem goodSs_nil (d : Nat) : GoodSs .nil d := by rw [GoodSs]; trivial
theorem goodCs_nil (d : Nat) : GoodCs .nil d := by rw [GoodCs]; trivial
theorem brk_call {x : Ex} (h : codeOf x = 7 ∨ codeOf x = 10) : brk 6 x = 0 := by
  cases x with
  | nil => rfl
  | mk code a k op nm l r zs =>
    refine brk_no ?_
    rintro ⟨rfl, _⟩
    rcases h with h | h <;> cases h
theorem goodO_call {x : Ex} {d : Nat} (hg : GoodO x d) (h : codeOf x = 7 ∨ codeOf x = 10) : GoodB x d := by
  unfold GoodO at hg
  rw [brk_call h] at hg
  exact hg
theorem goodO_recv {x : Ex} {d : Nat} (hg : GoodO x d) (h : codeOf x = 10) : GoodO (leftOf x) (d + 1) := by
  have hb := goodO_call hg (Or.inr h)
  cases x with
  | nil => cases h
  | mk code a k op nm l r zs =>
    have hc : code = 10 := h
    subst hc
    rw [GoodB] at hb
    obtain ⟨_, hb⟩ := hb
    rcases hb with ⟨h, _⟩ | ⟨h, _⟩ | ⟨h, _⟩ | ⟨h, _⟩ | ⟨h, _⟩ | ⟨h, _⟩ | ⟨_, _, _, _, _, _, h⟩ | ⟨h, _⟩ | ⟨h, _⟩
    · cases h
    · cases h
    · cases h
    · cases h
    · cases h
    · cases h
    · exact h
    · rcases h with h | h <;> cases h
    · cases h
theorem good_plain {E : Env} (hT : TokOk E) {f n m dep : Nat} {s : St} (h : plain E f n = .ok s m) : GoodS s dep := by
  unfold plain at h
  by_cases c1 : (pk E n).kind = 1 ∧ (pk E (n + 1)).text = tLet
  · rw [if_pos c1] at h
    obtain ⟨y, n1, h1, h⟩ := bind_ok h
    cases h
    unfold stz
    rw [GoodS]
    exact Or.inl ⟨Or.inl rfl, hT.words n c1.1, rfl, good_expr hT h1, rfl, rfl, rfl⟩
  rw [if_neg c1] at h
  by_cases c2 : (pk E n).kind = 1 ∧ (pk E (n + 1)).text = tSet
  · rw [if_pos c2] at h
    obtain ⟨y, n1, h1, h⟩ := bind_ok h
    cases h
    unfold stz
    rw [GoodS]
    exact Or.inl ⟨Or.inr rfl, hT.words n c2.1, rfl, good_expr hT h1, rfl, rfl, rfl⟩
  rw [if_neg c2] at h
  obtain ⟨y, n1, h1, h⟩ := bind_ok h
  have q := (gds hT f).one _ _ _ _ h1
  by_cases c3 : (pk E n1).text = tArrow
  · rw [if_pos c3] at h
    obtain ⟨z, n2, h2, h⟩ := bind_ok h
    cases h
    unfold stz
    rw [GoodS]
    exact Or.inr (Or.inl ⟨rfl, rfl, q, good_expr hT h2, rfl, rfl, rfl⟩)
  rw [if_neg c3] at h
  by_cases c4 : codeOf y = 7 ∨ codeOf y = 10
  · rw [if_pos c4] at h
    cases h
    unfold stz
    rw [GoodS]
    exact Or.inr (Or.inr (Or.inr (Or.inr (Or.inr (Or.inr (Or.inr (Or.inl ⟨rfl, rfl, rfl, goodO_call q c4, c4, rfl, rfl, rfl⟩)))))))
  rw [if_neg c4] at h
  exact (fail_ok h).elim
/-- What a case sends or receives, as it must be. -/
def GoodT (t : Nat × B × Ex × Ex) : Prop := (t.1 = 3 ∧ t.2.1 = [] ∧ GoodO t.2.2.1 0 ∧ GoodB t.2.2.2 0) ∨ (t.1 = 10 ∧ t.2.1 = [] ∧ GoodO t.2.2.1 1 ∧ t.2.2.2 = .nil) ∨ (t.1 = 10 ∧ WordT 1 t.2.1 ∧ GoodO t.2.2.1 0 ∧ t.2.2.2 = .nil)
theorem good_talk {E : Env} (hT : TokOk E) {f n m : Nat} {s : Nat × B × Ex × Ex} (h : talk E f n = .ok s m) : GoodT s := by
  unfold talk at h
  by_cases c1 : (pk E n).kind = 1 ∧ (pk E (n + 1)).text = tLet
  · rw [if_pos c1] at h
    obtain ⟨_, n0, h0, h⟩ := bind_ok h
    obtain ⟨y, n1, h1, h⟩ := bind_ok h
    cases h
    exact Or.inr (Or.inr ⟨rfl, hT.words n c1.1, (gds hT f).one _ _ _ _ h1, rfl⟩)
  rw [if_neg c1] at h
  obtain ⟨y, n1, h1, h⟩ := bind_ok h
  have q := (gds hT f).one _ _ _ _ h1
  by_cases c3 : (pk E n1).text = tArrow
  · rw [if_pos c3] at h
    obtain ⟨z, n2, h2, h⟩ := bind_ok h
    cases h
    exact Or.inl ⟨rfl, rfl, q, good_expr hT h2⟩
  rw [if_neg c3] at h
  by_cases c4 : codeOf y = 10
  · rw [if_pos c4] at h
    cases h
    exact Or.inr (Or.inl ⟨rfl, rfl, goodO_recv q c4, rfl⟩)
  rw [if_neg c4] at h
  exact (fail_ok h).elim

structure Sgds (E : Env) (f : Nat) : Prop where
  block : ∀ dep n x m, block E f dep n = .ok x m → dep < 12 ∧ GoodSs x (dep + 1)
  stmts : ∀ dep cs a n x m, stmts E f dep cs a n = .ok x m → GoodSs a dep → GoodSs x dep
  stmt : ∀ dep n x m, stmt E f dep n = .ok x m → GoodS x dep
  cases : ∀ dep a n x m, cases E f dep a n = .ok x m → a.len ≤ 6 → GoodCs a dep → x.len ≤ 6 ∧ GoodCs x dep
  oneCase : ∀ dep n x m, oneCase E f dep n = .ok x m → GoodC x dep
set_option maxHeartbeats 6400000 in
theorem sgds {E : Env} (hT : TokOk E) (f : Nat) : Sgds E f := by
  induction f with
  | zero =>
    constructor
    · intro _ _ _ _ h; rw [Tr.block] at h; cases h
    · intro _ _ _ _ _ _ h; rw [Tr.stmts] at h; cases h
    · intro _ _ _ _ h; rw [Tr.stmt] at h; cases h
    · intro _ _ _ _ _ h; rw [Tr.cases] at h; cases h
    · intro _ _ _ _ h; rw [Tr.oneCase] at h; cases h
  | succ f ih =>
    constructor
    · intro dep n x m h
      rw [block_eq] at h
      obtain ⟨_, n1, h1, h⟩ := bind_ok h
      obtain ⟨y, n2, h2, h⟩ := bind_ok h
      obtain ⟨_, n3, h3, h⟩ := bind_ok h
      cases h
      exact ⟨(open_one h1).2, ih.stmts _ _ _ _ _ _ h2 (goodSs_nil _)⟩
    · intro dep cs a n x m h ha
      rw [stmts_eq] at h
      by_cases c : (pk E n).text = tRb ∨ (cs = true ∧ ((pk E n).text = tCase ∨ (pk E n).text = tDefault))
      · rw [if_pos c] at h
        cases h
        exact ha
      rw [if_neg c] at h
      obtain ⟨y, n1, h1, h⟩ := bind_ok h
      have q := goodSs_snoc _ _ _ ha (ih.stmt _ _ _ _ h1)
      by_cases c2 : (pk E n1).text = tRb
      · rw [if_pos c2] at h
        exact ih.stmts _ _ _ _ _ _ h q
      · rw [if_neg c2] at h
        obtain ⟨_, n2, h2, h⟩ := bind_ok h
        exact ih.stmts _ _ _ _ _ _ h q
    · intro dep n x m h
      rw [stmt_eq] at h
      by_cases c0 : (pk E n).text = tClose
      · rw [if_pos c0] at h
        obtain ⟨y, n1, h1, h⟩ := bind_ok h
        cases h
        unfold stz
        rw [GoodS]
        exact Or.inr (Or.inr (Or.inl ⟨rfl, rfl, rfl, (gds hT f).bracketed _ _ _ _ h1, rfl, rfl, rfl⟩))
      rw [if_neg c0] at h
      by_cases c1 : (pk E n).text = tPrint
      · rw [if_pos c1] at h
        obtain ⟨y, n1, h1, h⟩ := bind_ok h
        cases h
        unfold stz
        rw [GoodS]
        exact Or.inr (Or.inr (Or.inr (Or.inl ⟨Or.inl rfl, rfl, rfl, good_expr hT h1, rfl, rfl, rfl⟩)))
      rw [if_neg c1] at h
      by_cases c2 : (pk E n).text = tSleep
      · rw [if_pos c2] at h
        obtain ⟨y, n1, h1, h⟩ := bind_ok h
        cases h
        unfold stz
        rw [GoodS]
        exact Or.inr (Or.inr (Or.inr (Or.inl ⟨Or.inr rfl, rfl, rfl, good_expr hT h1, rfl, rfl, rfl⟩)))
      rw [if_neg c2] at h
      by_cases c3 : (pk E n).text = tGo
      · rw [if_pos c3] at h
        obtain ⟨t, n1, h1, h⟩ := bind_ok h
        obtain ⟨y, n2, h2, h⟩ := bind_ok h
        cases h
        have ht : (pk E (n + 1)).kind = 1 := by
          unfold takeKind Tr.fail at h1
          split at h1
          · assumption
          · cases h1
        obtain ⟨_, rfl⟩ := takeKind_one h1
        obtain ⟨q1, q2⟩ := (gds hT f).call _ _ _ _ _ (by decide) (hT.words _ ht) h2
        unfold stz
        rw [GoodS]
        exact Or.inr (Or.inr (Or.inr (Or.inr (Or.inl ⟨rfl, rfl, rfl, goodO_call q1 (Or.inl q2), q2, rfl, rfl, rfl⟩))))
      rw [if_neg c3] at h
      by_cases c4 : (pk E n).text = tReturn
      · rw [if_pos c4] at h
        by_cases c : (pk E (n + 1)).kind = 5 ∨ (pk E (n + 1)).text = tRb
        · rw [if_pos c] at h
          cases h
          unfold stz
          rw [GoodS]
          exact Or.inr (Or.inr (Or.inr (Or.inr (Or.inr (Or.inl ⟨rfl, rfl, rfl, Or.inl rfl, rfl, rfl, rfl⟩)))))
        · rw [if_neg c] at h
          obtain ⟨y, n1, h1, h⟩ := bind_ok h
          cases h
          unfold stz
          rw [GoodS]
          exact Or.inr (Or.inr (Or.inr (Or.inr (Or.inr (Or.inl ⟨rfl, rfl, rfl, Or.inr (good_expr hT h1), rfl, rfl, rfl⟩)))))
      rw [if_neg c4] at h
      by_cases c5 : (pk E n).text = tBreak
      · rw [if_pos c5] at h
        cases h
        unfold stz
        rw [GoodS]
        exact Or.inr (Or.inr (Or.inr (Or.inr (Or.inr (Or.inr (Or.inl ⟨Or.inl rfl, rfl, rfl, rfl, rfl, rfl, rfl⟩))))))
      rw [if_neg c5] at h
      by_cases c6 : (pk E n).text = tContinue
      · rw [if_pos c6] at h
        cases h
        unfold stz
        rw [GoodS]
        exact Or.inr (Or.inr (Or.inr (Or.inr (Or.inr (Or.inr (Or.inl ⟨Or.inr rfl, rfl, rfl, rfl, rfl, rfl, rfl⟩))))))
      rw [if_neg c6] at h
      by_cases c7 : (pk E n).text = tIf
      · rw [if_pos c7] at h
        obtain ⟨y, n1, h1, h⟩ := bind_ok h
        obtain ⟨a, n2, h2, h⟩ := bind_ok h
        obtain ⟨p1, p2⟩ := ih.block _ _ _ _ h2
        by_cases c : (pk E n2).text = tElse
        · rw [if_pos c] at h
          obtain ⟨b, n3, h3, h⟩ := bind_ok h
          cases h
          rw [GoodS]
          exact Or.inr (Or.inr (Or.inr (Or.inr (Or.inr (Or.inr (Or.inr (Or.inr (Or.inl ⟨rfl, rfl, rfl, good_expr hT h1, p1, p2, (ih.block _ _ _ _ h3).2, rfl⟩))))))))
        · rw [if_neg c] at h
          cases h
          rw [GoodS]
          exact Or.inr (Or.inr (Or.inr (Or.inr (Or.inr (Or.inr (Or.inr (Or.inr (Or.inl ⟨rfl, rfl, rfl, good_expr hT h1, p1, p2, goodSs_nil _, rfl⟩))))))))
      rw [if_neg c7] at h
      by_cases c8 : (pk E n).text = tFor
      · rw [if_pos c8] at h
        obtain ⟨y, n1, h1, h⟩ := bind_ok h
        obtain ⟨a, n2, h2, h⟩ := bind_ok h
        cases h
        obtain ⟨p1, p2⟩ := ih.block _ _ _ _ h2
        rw [GoodS]
        exact Or.inr (Or.inr (Or.inr (Or.inr (Or.inr (Or.inr (Or.inr (Or.inr (Or.inr (Or.inl ⟨rfl, rfl, rfl, good_expr hT h1, p1, p2, rfl, rfl⟩)))))))))
      rw [if_neg c8] at h
      by_cases c9 : (pk E n).text = tSelect
      · rw [if_pos c9] at h
        obtain ⟨_, n1, h1, h⟩ := bind_ok h
        obtain ⟨a, n2, h2, h⟩ := bind_ok h
        obtain ⟨_, n3, h3, h⟩ := bind_ok h
        cases h
        obtain ⟨q1, q2⟩ := ih.cases _ _ _ _ _ h2 (Nat.zero_le _) (goodCs_nil _)
        rw [GoodS]
        exact Or.inr (Or.inr (Or.inr (Or.inr (Or.inr (Or.inr (Or.inr (Or.inr (Or.inr (Or.inr (⟨rfl, rfl, rfl, rfl, rfl, rfl, (open_one h1).2, q1, q2⟩))))))))))
      rw [if_neg c9] at h
      exact good_plain hT h
    · intro dep a n x m h ha hg
      rw [cases_eq] at h
      by_cases c : (pk E n).text = tRb
      · rw [if_pos c] at h
        cases h
        exact ⟨ha, hg⟩
      rw [if_neg c] at h
      by_cases c2 : 6 ≤ a.len
      · rw [if_pos c2] at h; exact (fail_ok h).elim
      rw [if_neg c2] at h
      obtain ⟨y, n1, h1, h⟩ := bind_ok h
      exact ih.cases _ _ _ _ _ h (by rw [Cas.len_snocT]; omega) (goodCs_snoc _ _ _ hg (ih.oneCase _ _ _ _ h1))
    · intro dep n x m h
      rw [oneCase_eq] at h
      by_cases c : (pk E n).text = tDefault
      · rw [if_pos c] at h
        obtain ⟨_, n1, h1, h⟩ := bind_ok h
        obtain ⟨l, n2, h2, h⟩ := bind_ok h
        cases h
        rw [GoodC]
        exact ⟨Or.inr (Or.inr (Or.inr ⟨rfl, rfl, rfl, rfl⟩)), ih.stmts _ _ _ _ _ _ h2 (goodSs_nil _)⟩
      rw [if_neg c] at h
      obtain ⟨_, n1, h1, h⟩ := bind_ok h
      obtain ⟨t, n2, h2, h⟩ := bind_ok h
      obtain ⟨_, n3, h3, h⟩ := bind_ok h
      obtain ⟨l, n4, h4, h⟩ := bind_ok h
      cases h
      rw [GoodC]
      refine ⟨?_, ih.stmts _ _ _ _ _ _ h4 (goodSs_nil _)⟩
      rcases good_talk hT h2 with q | q | q
      · exact Or.inl q
      · exact Or.inr (Or.inl q)
      · exact Or.inr (Or.inr (Or.inl q))

theorem kindV_le (t : B) : kindV t ≤ 3 := by
  unfold kindV
  repeat' split
  all_goals omega
theorem kind_of {E : Env} {q n m : Nat} {x : Tok} (h : takeKind E q n = .ok x m) : (pk E n).kind = q := by
  unfold takeKind Tr.fail at h
  split at h
  · assumption
  · cases h
theorem good_params {E : Env} (hT : TokOk E) : ∀ (f : Nat) (acc : List Pa) (n : Nat) (x : List Pa) (m : Nat), params E f acc n = .ok x m → (∀ p ∈ acc, GoodP p) → ∀ p ∈ x, GoodP p
  | 0, _, _, _, _, h, _ => by rw [params] at h; cases h
  | f + 1, acc, n, x, m, h, ha => by
    rw [paramsQ_eq] at h
    obtain ⟨t, n1, h1, h⟩ := bind_ok h
    have hk := kind_of h1
    obtain ⟨rfl, rfl⟩ := takeKind_one h1
    by_cases q : kindV (pk E (n + 1)).text = 0
    · rw [if_pos q] at h; exact (fail_ok h).elim
    rw [if_neg q] at h
    have hp : ∀ p ∈ acc ++ [⟨(pk E n).text, kindV (pk E (n + 1)).text, (pk E n).at_⟩], GoodP p := fun p hp => by
      rcases List.mem_append.1 hp with h2 | h2
      · exact ha p h2
      · rw [List.mem_singleton.1 h2]
        exact ⟨hT.words n hk, by show 1 ≤ kindV _; omega, kindV_le _⟩
    by_cases q2 : (pk E (n + 1 + 1)).text = tComma
    · rw [if_pos q2] at h
      exact good_params hT f _ _ _ _ h hp
    · rw [if_neg q2] at h
      obtain ⟨_, n2, h2, h⟩ := bind_ok h
      cases h
      exact hp
theorem good_function {E : Env} (hT : TokOk E) {f n m : Nat} {g : Fu} (h : Tr.function E f n = .ok g m) : GoodF g := by
  unfold Tr.function at h
  obtain ⟨_, n1, h1, h⟩ := bind_ok h
  obtain ⟨t, n2, h2, h⟩ := bind_ok h
  obtain ⟨_, n3, h3, h⟩ := bind_ok h
  obtain ⟨ps, n4, h4, h⟩ := bind_ok h
  obtain ⟨b, n5, h5, h⟩ := bind_ok h
  cases h
  have hk := kind_of h2
  obtain ⟨_, rfl⟩ := takeKind_one h2
  refine ⟨hT.words n1 hk, ?_, kindV_le _, ((sgds hT f).block _ _ _ _ h5).2⟩
  by_cases q : (pk E n3).text = tRp
  · rw [if_pos q] at h4
    cases h4
    intro p hp
    cases hp
  · rw [if_neg q] at h4
    exact good_params hT f _ _ _ _ h4 (fun p hp => by cases hp)
theorem good_program {E : Env} (hT : TokOk E) : ∀ (f : Nat) (src : Src) (n : Nat) (x : Src) (m : Nat), Tr.program E f src n = .ok x m → GoodSrc src → GoodSrc x
  | 0, _, _, _, _, h, _ => by rw [Tr.program] at h; cases h
  | f + 1, src, n, x, m, h, hs => by
    rw [programQ_eq] at h
    by_cases c0 : E.toks.length ≤ n
    · rw [if_pos c0] at h
      cases h
      exact hs
    rw [if_neg c0] at h
    by_cases c1 : (pk E n).text = tVar
    · rw [if_pos c1] at h
      by_cases c2 : 8 ≤ src.globals.length
      · rw [if_pos c2] at h; exact (fail_ok h).elim
      rw [if_neg c2] at h
      obtain ⟨t, n1, h1, h⟩ := bind_ok h
      obtain ⟨_, n2, h2, h⟩ := bind_ok h
      have hk := kind_of h1
      obtain ⟨_, rfl⟩ := takeKind_one h1
      refine good_program hT f _ _ _ _ h ⟨fun g hg => ?_, hs.fus, by simp; omega, hs.nf⟩
      rcases List.mem_append.1 hg with h3 | h3
      · exact hs.gls g h3
      · rw [List.mem_singleton.1 h3]; exact hT.words _ hk
    rw [if_neg c1] at h
    by_cases c2 : (pk E n).text = tFunc
    · rw [if_pos c2] at h
      by_cases c3 : 12 ≤ src.funcs.length
      · rw [if_pos c3] at h; exact (fail_ok h).elim
      rw [if_neg c3] at h
      obtain ⟨g, n1, h1, h⟩ := bind_ok h
      obtain ⟨_, n2, h2, h⟩ := bind_ok h
      refine good_program hT f _ _ _ _ h ⟨hs.gls, fun g' hg => ?_, hs.ng, by simp; omega⟩
      rcases List.mem_append.1 hg with h3 | h3
      · exact hs.fus g' h3
      · rw [List.mem_singleton.1 h3]; exact good_function hT h1
    rw [if_neg c2] at h
    exact (fail_ok h).elim

/-- Words that are cut are words. -/
theorem word_cut {l : B} (h0 : 0 < letV l) (hk : isKeyV (l.take (wordV l)) = false) (hs : wordV l ≤ 12) : WordT 1 (l.take (wordV l)) := by
  have hle := wordV_le l.length l (Nat.le_refl _)
  have e1 : wordV (l.take (wordV l)) = wordV l := by
    have h1 := wordV_cut l.length l [] 32 (Nat.le_refl _) stop_32
    have h2 := wordV_ext (l.take (wordV l)).length (l.take (wordV l)) [] 32 (Nat.le_refl _) stop_32
    rw [← h2, h1]
  have hlen : (l.take (wordV l)).length = wordV l := by rw [List.length_take]; omega
  have hal : alnV l = letV l := by unfold alnV; rw [if_neg (by omega)]
  have hw : letV l ≤ wordV l := by rw [wordV_eq, hal, if_neg (by omega)]; omega
  have e2 : letV (l.take (wordV l)) = letV l := by
    have h1 := letV_loc l ((l.take (wordV l)).drop (letV l)) h0
    have h2 : l.take (letV l) = (l.take (wordV l)).take (letV l) := by rw [List.take_take, Nat.min_eq_left hw]
    rw [h2, List.take_append_drop] at h1
    exact h1
  exact ⟨by rw [e1, hlen], by rw [e2]; exact h0, by rw [hk]; rfl, fun _ => by rw [hlen]; exact hs⟩
theorem tok1 {l : B} {may : Bool} {n : Nat} (hl : l ≠ []) (h : stepV l may = .cut (.tok 1 n)) : WordT 1 (l.take n) := by
  cases l with
  | nil => exact absurd rfl hl
  | cons b r =>
    rw [stepV_cons] at h
    split at h
    · cases h
    split at h
    · cases h
    split at h
    · split at h <;> cases h
    · have h2 : cutV (b :: r) = .tok 1 n := by injection h
      rw [cutV_cons] at h2
      by_cases q1 : b = 59
      · rw [if_pos q1] at h2; cases h2
      rw [if_neg q1] at h2
      by_cases q2 : isDg b = true
      · rw [if_pos q2] at h2
        unfold numCut at h2
        split at h2
        · cases h2
        split at h2 <;> cases h2
      rw [if_neg q2] at h2
      by_cases q3 : 0 < letV (b :: r)
      · rw [if_pos q3] at h2
        unfold wordCut at h2
        by_cases q4 : isKeyV ((b :: r).take (wordV (b :: r))) = true
        · rw [if_pos q4] at h2; cases h2
        rw [if_neg q4] at h2
        by_cases q5 : 12 < wordV (b :: r)
        · rw [if_pos q5] at h2; cases h2
        rw [if_neg q5] at h2
        have hn : wordV (b :: r) = n := by injection h2
        rw [← hn]
        exact word_cut q3 (by simpa using q4) (by omega)
      · rw [if_neg q3] at h2
        unfold sigCut at h2
        split at h2 <;> cases h2
theorem words_text : ∀ (l : B) (a : Nat) (may : Bool) (ts : List Tok), lx l a may = (ts, none) → ∀ t ∈ ts, t.kind = 1 → WordT 1 t.text := by
  refine lx_induct (fun _ _ _ ts => ∀ t ∈ ts, t.kind = 1 → WordT 1 t.text) ?_ ?_ ?_
  · intro a may t ht hk
    unfold endV at ht
    split at ht
    · simp at ht; subst ht; cases hk
    · cases ht
  · intro l a may n ts _ _ _ _ _ ih
    exact ih
  · intro l a may k n ts hl hs h1 h2 _ ih t ht hk
    rcases List.mem_cons.1 ht with rfl | ht
    · have hk' : k = 1 := hk
      subst hk'
      exact tok1 hl hs
    · exact ih t ht hk
theorem tok_ok {l : B} {ts : List Tok} {e : Nat} (hts : lx l 0 false = (ts, none)) : TokOk ⟨ts, e⟩ := by
  have key : ∀ n, (pk ⟨ts, e⟩ n).kind ≠ 0 → pk ⟨ts, e⟩ n ∈ ts := fun n hk => by
    have hlt := pk_kind_lt (E := ⟨ts, e⟩) (n := n) hk
    have h1 : ts[n]? = some ts[n] := List.getElem?_eq_getElem hlt
    have h2 : pk ⟨ts, e⟩ n = ts[n] := by unfold pk; rw [h1]; rfl
    rw [h2]
    exact List.getElem_mem hlt
  exact ⟨fun n hk => words_text _ _ _ _ hts _ (key n (by rw [hk]; decide)) hk, fun n hk => nums_text _ _ _ _ hts _ (key n (by rw [hk]; decide)) hk⟩
/-- WHAT IS WRITTEN IS READ: of a program that was read. -/
theorem again {l : B} {ts : List Tok} {e m : Nat} {s : Src} (hts : lx l 0 false = (ts, none)) (h : Ev (fun f => Tr.program ⟨ts, e⟩ f ⟨[], []⟩ 0) (.ok s m)) : ∃ us, lx (printV s) 0 false = (us, none) ∧ ∀ en r, Ev (fun f => Tr.program ⟨us, en⟩ f ⟨[], []⟩ 0) r → ∃ s' m', r = .ok s' m' ∧ printV s' = printV s := by
  obtain ⟨_, f0, h⟩ := h
  have hg : GoodSrc s := good_program (tok_ok hts) f0 ⟨[], []⟩ 0 s m (h f0 (Nat.le_refl _)) ⟨fun g hg => (by cases hg), fun g hg => (by cases hg), Nat.zero_le _, Nat.zero_le _⟩
  obtain ⟨us, h1, h2⟩ := src_lx hg
  refine ⟨us, h1, fun en r hr => ?_⟩
  obtain ⟨s', e1, e2, hev⟩ := src_rd (en := en) hg h2
  exact ⟨s', us.length, Ev.det hr hev, printV_E e1 e2⟩
end Tr
end Go.Proofs.YtgonbmcojjcabaaGreatDoor

namespace Go.Proofs.YtgonbmcojjcabaaGreatDoor
open Go.RowKit Lx Tr
variable {w w' : World}

/-- What Parse says of a program as it is written. -/
theorem again_parse {l : Lx.B} {ts : List Lx.Tok} {src : Src} {en m : Nat} {e : Ending} (hts : lx l 0 false = (ts, none)) (hev : Ev (fun f => Tr.program ⟨ts, en⟩ f ⟨[], []⟩ 0) (.ok src m)) (hs : ¬ 4000 < (mkT (printV src)).size) (h : ParseSays w w' (mkT (printV src)) e) :
    ∃ sz gv fv, e = .returned (.tuple #[.agg #[gv, fv], .nilIface]) ∧ SrcO w' w.heap.size sz gv fv ∧ SrcOk sz ∧ (printV sz).length ≤ 1000000 ∧ printV sz = printV src := by
  obtain ⟨us, h1, h2⟩ := again hts hev
  have hl : (mkT (printV src)).data.toList = printV src := rfl
  have hz : (mkT (printV src)).size = (printV src).length := rfl
  unfold ParseSays at h
  rw [if_neg hs, hl, h1] at h
  simp only at h
  obtain ⟨r, hr, hr2⟩ := h
  obtain ⟨sz, m', rfl, hp⟩ := h2 _ r hr
  obtain ⟨gv, fv, rfl, hso⟩ := hr2
  obtain ⟨t1, t2⟩ := text_len h1 hr
  exact ⟨sz, gv, fv, rfl, hso, t1, by omega, hp⟩

set_option maxRecDepth 100000 in
set_option maxHeartbeats 6400000 in
theorem treeAgain_any (q : ByteArray) (w : World) (hE : LawEnv w) : Calls Tryz.prog 5 #[.string q] w fun e w' => e = .returned (.bool true) ∧ Below w.heap.size w w' := by
  have HG := Lib.hid (grown_any w hE)
  have HE := Lib.hid hE
  clear hE
  go_enter Tryz.func5, Tryz.ntmps5
  go_wp2_with fail
  refine HG.out.mono ?_
  rintro e w1 ⟨rfl, hb1⟩
  have HE1 := Lib.hid (HE.out.below hb1)
  have HB1 := Lib.hid hb1
  clear hb1
  go_wp2_with fail
  refine (read_any q w1 HE1.out).mono ?_
  rintro e w2 ⟨hra, hb2⟩
  have HB2 := Lib.hid (HB1.out.trans (hb2.mono HB1.out.size))
  have HE2 := Lib.hid (HE1.out.below hb2)
  clear hb2
  rcases hra with ⟨ts, src, m, gxv, fxv, hsa, hts, hev, rfl, hox⟩ | rfl
  · obtain ⟨ga, gc, rfl⟩ := ownsRow_form hox.choose_spec.1
    obtain ⟨fa, fc, rfl⟩ := ownsRow_form hox.choose_spec.2.1
    have hbx := fresh_alloc w2 #[.slice ga src.globals.length gc, .slice fa src.funcs.length fc] 26
    obtain ⟨hok, hlen⟩ := text_len hts hev
    have hq : q.data.toList.length = q.size := Array.length_toList
    have hlen' : (printV src).length ≤ 1000000 := by omega
    have hox2 : SrcO (w2.alloc (.cells #[.slice ga src.globals.length gc, .slice fa src.funcs.length fc] 26)) w1.heap.size src (.slice ga src.globals.length gc) (.slice fa src.funcs.length fc) := hox.keeps (S := fun _ => False) ((Keeps.refl _ _).alloc _) (fun _ _ e => e)
    have HPR := Lib.hid (print_any (w2.alloc (.cells #[.slice ga src.globals.length gc, .slice fa src.funcs.length fc] 26)) (hox2.toG (fun b h1 _ => h1)) (HE2.out.below hbx).penv hok hlen')
    unfold Tells at HPR
    have HTS := Lib.hid hts
    have HEV := Lib.hid hev
    have HBX := Lib.hid (HB2.out.trans (hbx.mono HB2.out.size))
    have HEX := Lib.hid (HE2.out.below hbx)
    clear hsa hts hev hox hbx hok hlen hq hlen' hox2
    go_wp2_with fail
    refine HPR.out.mono ?_
    rintro e w3 ⟨rfl, hb3⟩
    have HB3 := Lib.hid (HBX.out.trans (hb3.mono HBX.out.size))
    have HE3 := Lib.hid (HEX.out.below hb3)
    clear hb3
    by_cases h4 : 4000 < (mkT (printV src)).size
    · have h4' : (4000 : Int) < ((mkT (printV src)).size : Int) := by omega
      clear h4
      go_wp2_with fail
      go_ret
      exact ⟨rfl, HB3.out⟩
    · have h4' : ¬ (4000 : Int) < ((mkT (printV src)).size : Int) := by omega
      have H4 := Lib.hid h4
      clear h4
      go_wp2_with fail
      refine (treeParse_any _ _ HE3.out.tree).mono ?_
      rintro e w4 ⟨hsay, hb4⟩
      obtain ⟨sz, gzv, fzv, rfl, hoz, hokz, hlz, hpz⟩ := again_parse HTS.out HEV.out H4.out hsay
      obtain ⟨za, zc, rfl⟩ := ownsRow_form hoz.choose_spec.1
      obtain ⟨fza, fzc, rfl⟩ := ownsRow_form hoz.choose_spec.2.1
      have hbz := fresh_alloc w4 #[.slice za sz.globals.length zc, .slice fza sz.funcs.length fzc] 26
      have hoz2 : SrcO (w4.alloc (.cells #[.slice za sz.globals.length zc, .slice fza sz.funcs.length fzc] 26)) w3.heap.size sz (.slice za sz.globals.length zc) (.slice fza sz.funcs.length fzc) := hoz.keeps (S := fun _ => False) ((Keeps.refl _ _).alloc _) (fun _ _ e => e)
      have HPZ := Lib.hid (print_any (w4.alloc (.cells #[.slice za sz.globals.length zc, .slice fza sz.funcs.length fzc] 26)) (hoz2.toG (fun b h1 _ => h1)) ((HE3.out.below hb4).below hbz).penv hokz hlz)
      rw [hpz] at HPZ
      unfold Tells at HPZ
      have HB4 := Lib.hid ((HB3.out.trans (hb4.mono HB3.out.size)).trans (hbz.mono (HB3.out.trans (hb4.mono HB3.out.size)).size))
      have hEN := err_isNone
      clear hsay hoz hokz hlz hpz hbz hoz2 hb4 h4'
      go_wp2_with fail
      refine HPZ.out.mono ?_
      rintro e w5 ⟨rfl, hb5⟩
      have HB5 := Lib.hid (HB4.out.trans (hb5.mono HB4.out.size))
      clear hb5
      go_wp2_with fail
      go_ret
      exact ⟨by simp, HB5.out⟩
  · have hbx := fresh_alloc w2 #[.slice none 0 0, .slice none 0 0] 26
    have HPR := Lib.hid (print_any (src := ⟨[], []⟩) (gv := .slice none 0 0) (fv := .slice none 0 0) (w2.alloc (.cells #[.slice none 0 0, .slice none 0 0] 26)) ⟨Or.inl ⟨rfl, rfl⟩, Or.inl ⟨rfl, rfl⟩⟩ (HE2.out.below hbx).penv (fun g hg => by cases hg) (Nat.zero_le _))
    unfold Tells at HPR
    have HBX := Lib.hid (HB2.out.trans (hbx.mono HB2.out.size))
    clear hbx
    go_wp2_with fail
    refine HPR.out.mono ?_
    rintro e w3 ⟨rfl, hb3⟩
    have HB3 := Lib.hid (HBX.out.trans (hb3.mono HBX.out.size))
    clear hb3
    go_wp2_with fail
    go_ret
    exact ⟨rfl, HB3.out⟩
end Go.Proofs.YtgonbmcojjcabaaGreatDoor
