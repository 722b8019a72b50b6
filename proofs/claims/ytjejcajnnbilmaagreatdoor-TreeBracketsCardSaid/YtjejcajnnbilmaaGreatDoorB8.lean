/-
  Texts of one proof, in build order: TreeWD TreeWE TreeWF TreeWG TreeWH TreeWI TreeWJ TreeQ9 TreeQA TreeQH TreeQB ErrAs ErrAs2 ErrAsAt TellB TellAt TreeWK
-/
import Derived.Test.YtjejcajnnbilmaaGreatDoorB7
import Derived.Deep.RegionHeld
import Derived.Test.YtjejcajnnbilmaaGreatDoorRows
import Derived.WalkKit
import Derived.WalkSpells
import Derived.WalkLawsBesides
import Derived.LaidEql
import Derived.LaidHandle
import Derived.Stop.Asserts
import Derived.RowKitTokens
import Derived.Lib.Hide
import Derived.RegionTactic
import Derived.ChangeAlike
import Derived.Deep.QuietTactic
import Derived.BigQuiet
set_option maxRecDepth 100000
set_option maxHeartbeats 12800000
namespace Go.Proofs.YtjejcajnnbilmaaGreatDoor
open Lx Tr
namespace Tr
theorem goodSs_snoc : ∀ (xs : Sts) (y : St) (d : Nat), GoodSs xs d -> GoodS y d -> GoodSs (xs.snoc y) d
 | .nil, y, d, _, h => by rw [Sts.snoc, GoodSs, GoodSs]; exact ⟨h, trivial⟩
 | .cons x xs, y, d, h, h2 => by
  rw [GoodSs] at h
  rw [Sts.snoc, GoodSs]
  exact ⟨h.1, goodSs_snoc xs y d h.2 h2⟩
theorem goodCs_snoc : ∀ (xs : Cas) (y : Ca) (d : Nat), GoodCs xs d -> GoodC y d -> GoodCs (xs.snoc y) d
 | .nil, y, d, _, h => by rw [Cas.snoc, GoodCs, GoodCs]; exact ⟨h, trivial⟩
 | .cons x xs, y, d, h, h2 => by
  rw [GoodCs] at h
  rw [Cas.snoc, GoodCs]
  exact ⟨h.1, goodCs_snoc xs y d h.2 h2⟩
theorem goodSs_nil (d : Nat) : GoodSs .nil d := by rw [GoodSs]; trivial
theorem goodCs_nil (d : Nat) : GoodCs .nil d := by rw [GoodCs]; trivial
theorem brk_call {x : Ex} (h : codeOf x = 7 \/ codeOf x = 10) : brk 6 x = 0 := by
 cases x with
 | nil => rfl
 | mk code a k op nm l r zs =>
  refine brk_no ?_
  rintro ⟨rfl, _⟩
  rcases h with h | h <;> cases h
theorem goodO_call {x : Ex} {d : Nat} (hg : GoodO x d) (h : codeOf x = 7 \/ codeOf x = 10) : GoodB x d := by
 unfold GoodO at hg
 rw [brk_call h] at hg
 exact hg
theorem goodO_recv {x : Ex} {d : Nat} (hg : GoodO x d) (h : codeOf x = 10) : GoodO (leftOf x) (d + 1) := by
 have hb := goodO_call hg (Or.inr h)
 cases x with
 | nil => cases h
 | mk code a k op nm l r zs =>
  have hc : code = 10 := h
  subst hc
  rw [GoodB] at hb
  obtain ⟨_, hb⟩ := hb
  rcases hb with ⟨h, _⟩ | ⟨h, _⟩ | ⟨h, _⟩ | ⟨h, _⟩ | ⟨h, _⟩ | ⟨h, _⟩ | ⟨_, _, _, _, _, _, h⟩ | ⟨h, _⟩ | ⟨h, _⟩
  ·cases h
  ·cases h
  ·cases h
  ·cases h
  ·cases h
  ·cases h
  ·exact h
  ·rcases h with h | h <;> cases h
  ·cases h
theorem good_plain {E : Env} (hT : TokOk E) {f n m dep : Nat} {s : St} (h : plain E f n = .ok s m) : GoodS s dep := by
 unfold plain at h
 by_cases c1 : (pk E n).kind = 1 /\ (pk E (n + 1)).text = tLet
 ·rw [if_pos c1] at h
  obtain ⟨y, n1, h1, h⟩ := bind_ok h
  cases h
  unfold stz
  rw [GoodS]
  exact Or.inl ⟨Or.inl rfl, hT.words n c1.1, rfl, good_expr hT h1, rfl, rfl, rfl⟩
 rw [if_neg c1] at h
 by_cases c2 : (pk E n).kind = 1 /\ (pk E (n + 1)).text = tSet
 ·rw [if_pos c2] at h
  obtain ⟨y, n1, h1, h⟩ := bind_ok h
  cases h
  unfold stz
  rw [GoodS]
  exact Or.inl ⟨Or.inr rfl, hT.words n c2.1, rfl, good_expr hT h1, rfl, rfl, rfl⟩
 rw [if_neg c2] at h
 obtain ⟨y, n1, h1, h⟩ := bind_ok h
 have q := (gds hT f).one _ _ _ _ h1
 by_cases c3 : (pk E n1).text = tArrow
 ·rw [if_pos c3] at h
  obtain ⟨z, n2, h2, h⟩ := bind_ok h
  cases h
  unfold stz
  rw [GoodS]
  exact Or.inr (Or.inl ⟨rfl, rfl, q, good_expr hT h2, rfl, rfl, rfl⟩)
 rw [if_neg c3] at h
 by_cases c4 : codeOf y = 7 \/ codeOf y = 10
 ·rw [if_pos c4] at h
  cases h
  unfold stz
  rw [GoodS]
  exact Or.inr (Or.inr (Or.inr (Or.inr (Or.inr (Or.inr (Or.inr (Or.inl ⟨rfl, rfl, rfl, goodO_call q c4, c4, rfl, rfl, rfl⟩)))))))
 rw [if_neg c4] at h
 exact (fail_ok h).elim
def GoodT (t : Nat × B × Ex × Ex) : Prop := (t.1 = 3 /\ t.2.1 = [] /\ GoodO t.2.2.1 0 /\ GoodB t.2.2.2 0) \/ (t.1 = 10 /\ t.2.1 = [] /\ GoodO t.2.2.1 1 /\ t.2.2.2 = .nil) \/ (t.1 = 10 /\ WordT 1 t.2.1 /\ GoodO t.2.2.1 0 /\ t.2.2.2 = .nil)
theorem good_talk {E : Env} (hT : TokOk E) {f n m : Nat} {s : Nat × B × Ex × Ex} (h : talk E f n = .ok s m) : GoodT s := by
 unfold talk at h
 by_cases c1 : (pk E n).kind = 1 /\ (pk E (n + 1)).text = tLet
 ·rw [if_pos c1] at h
  obtain ⟨_, n0, h0, h⟩ := bind_ok h
  obtain ⟨y, n1, h1, h⟩ := bind_ok h
  cases h
  exact Or.inr (Or.inr ⟨rfl, hT.words n c1.1, (gds hT f).one _ _ _ _ h1, rfl⟩)
 rw [if_neg c1] at h
 obtain ⟨y, n1, h1, h⟩ := bind_ok h
 have q := (gds hT f).one _ _ _ _ h1
 by_cases c3 : (pk E n1).text = tArrow
 ·rw [if_pos c3] at h
  obtain ⟨z, n2, h2, h⟩ := bind_ok h
  cases h
  exact Or.inl ⟨rfl, rfl, q, good_expr hT h2⟩
 rw [if_neg c3] at h
 by_cases c4 : codeOf y = 10
 ·rw [if_pos c4] at h
  cases h
  exact Or.inr (Or.inl ⟨rfl, rfl, goodO_recv q c4, rfl⟩)
 rw [if_neg c4] at h
 exact (fail_ok h).elim
structure Sgds (E : Env) (f : Nat) : Prop where
 block : ∀ dep n x m, block E f dep n = .ok x m -> dep < 12 /\ GoodSs x (dep + 1)
 stmts : ∀ dep cs a n x m, stmts E f dep cs a n = .ok x m -> GoodSs a dep -> GoodSs x dep
 stmt : ∀ dep n x m, stmt E f dep n = .ok x m -> GoodS x dep
 cases : ∀ dep a n x m, cases E f dep a n = .ok x m -> a.len <= 6 -> GoodCs a dep -> x.len <= 6 /\ GoodCs x dep
 oneCase : ∀ dep n x m, oneCase E f dep n = .ok x m -> GoodC x dep
theorem sgds {E : Env} (hT : TokOk E) (f : Nat) : Sgds E f := by
 induction f with
 | zero =>
  constructor
  ·intro _ _ _ _ h; rw [Tr.block] at h; cases h
  ·intro _ _ _ _ _ _ h; rw [Tr.stmts] at h; cases h
  ·intro _ _ _ _ h; rw [Tr.stmt] at h; cases h
  ·intro _ _ _ _ _ h; rw [Tr.cases] at h; cases h
  ·intro _ _ _ _ h; rw [Tr.oneCase] at h; cases h
 | succ f ih =>
  constructor
  ·intro dep n x m h
   rw [block_eq] at h
   obtain ⟨_, n1, h1, h⟩ := bind_ok h
   obtain ⟨y, n2, h2, h⟩ := bind_ok h
   obtain ⟨_, n3, h3, h⟩ := bind_ok h
   cases h
   exact ⟨(open_one h1).2, ih.stmts _ _ _ _ _ _ h2 (goodSs_nil _)⟩
  ·intro dep cs a n x m h ha
   rw [stmts_eq] at h
   by_cases c : (pk E n).text = tRb \/ (cs = true /\ ((pk E n).text = tCase \/ (pk E n).text = tDefault))
   ·rw [if_pos c] at h
    cases h
    exact ha
   rw [if_neg c] at h
   obtain ⟨y, n1, h1, h⟩ := bind_ok h
   have q := goodSs_snoc _ _ _ ha (ih.stmt _ _ _ _ h1)
   by_cases c2 : (pk E n1).text = tRb
   ·rw [if_pos c2] at h
    exact ih.stmts _ _ _ _ _ _ h q
   ·rw [if_neg c2] at h
    obtain ⟨_, n2, h2, h⟩ := bind_ok h
    exact ih.stmts _ _ _ _ _ _ h q
  ·intro dep n x m h
   rw [stmt_eq] at h
   by_cases c0 : (pk E n).text = tClose
   ·rw [if_pos c0] at h
    obtain ⟨y, n1, h1, h⟩ := bind_ok h
    cases h
    unfold stz
    rw [GoodS]
    exact Or.inr (Or.inr (Or.inl ⟨rfl, rfl, rfl, (gds hT f).bracketed _ _ _ _ h1, rfl, rfl, rfl⟩))
   rw [if_neg c0] at h
   by_cases c1 : (pk E n).text = tPrint
   ·rw [if_pos c1] at h
    obtain ⟨y, n1, h1, h⟩ := bind_ok h
    cases h
    unfold stz
    rw [GoodS]
    exact Or.inr (Or.inr (Or.inr (Or.inl ⟨Or.inl rfl, rfl, rfl, good_expr hT h1, rfl, rfl, rfl⟩)))
   rw [if_neg c1] at h
   by_cases c2 : (pk E n).text = tSleep
   ·rw [if_pos c2] at h
    obtain ⟨y, n1, h1, h⟩ := bind_ok h
    cases h
    unfold stz
    rw [GoodS]
    exact Or.inr (Or.inr (Or.inr (Or.inl ⟨Or.inr rfl, rfl, rfl, good_expr hT h1, rfl, rfl, rfl⟩)))
   rw [if_neg c2] at h
   by_cases c3 : (pk E n).text = tGo
   ·rw [if_pos c3] at h
    obtain ⟨t, n1, h1, h⟩ := bind_ok h
    obtain ⟨y, n2, h2, h⟩ := bind_ok h
    cases h
    have ht : (pk E (n + 1)).kind = 1 := by
     unfold takeKind Tr.fail at h1
     split at h1
     ·assumption
     ·cases h1
    obtain ⟨_, rfl⟩ := takeKind_one h1
    obtain ⟨q1, q2⟩ := (gds hT f).call _ _ _ _ _ (by decide) (hT.words _ ht) h2
    unfold stz
    rw [GoodS]
    exact Or.inr (Or.inr (Or.inr (Or.inr (Or.inl ⟨rfl, rfl, rfl, goodO_call q1 (Or.inl q2), q2, rfl, rfl, rfl⟩))))
   rw [if_neg c3] at h
   by_cases c4 : (pk E n).text = tReturn
   ·rw [if_pos c4] at h
    by_cases c : (pk E (n + 1)).kind = 5 \/ (pk E (n + 1)).text = tRb
    ·rw [if_pos c] at h
     cases h
     unfold stz
     rw [GoodS]
     exact Or.inr (Or.inr (Or.inr (Or.inr (Or.inr (Or.inl ⟨rfl, rfl, rfl, Or.inl rfl, rfl, rfl, rfl⟩)))))
    ·rw [if_neg c] at h
     obtain ⟨y, n1, h1, h⟩ := bind_ok h
     cases h
     unfold stz
     rw [GoodS]
     exact Or.inr (Or.inr (Or.inr (Or.inr (Or.inr (Or.inl ⟨rfl, rfl, rfl, Or.inr (good_expr hT h1), rfl, rfl, rfl⟩)))))
   rw [if_neg c4] at h
   by_cases c5 : (pk E n).text = tBreak
   ·rw [if_pos c5] at h
    cases h
    unfold stz
    rw [GoodS]
    exact Or.inr (Or.inr (Or.inr (Or.inr (Or.inr (Or.inr (Or.inl ⟨Or.inl rfl, rfl, rfl, rfl, rfl, rfl, rfl⟩))))))
   rw [if_neg c5] at h
   by_cases c6 : (pk E n).text = tContinue
   ·rw [if_pos c6] at h
    cases h
    unfold stz
    rw [GoodS]
    exact Or.inr (Or.inr (Or.inr (Or.inr (Or.inr (Or.inr (Or.inl ⟨Or.inr rfl, rfl, rfl, rfl, rfl, rfl, rfl⟩))))))
   rw [if_neg c6] at h
   by_cases c7 : (pk E n).text = tIf
   ·rw [if_pos c7] at h
    obtain ⟨y, n1, h1, h⟩ := bind_ok h
    obtain ⟨a, n2, h2, h⟩ := bind_ok h
    obtain ⟨p1, p2⟩ := ih.block _ _ _ _ h2
    by_cases c : (pk E n2).text = tElse
    ·rw [if_pos c] at h
     obtain ⟨b, n3, h3, h⟩ := bind_ok h
     cases h
     rw [GoodS]
     exact Or.inr (Or.inr (Or.inr (Or.inr (Or.inr (Or.inr (Or.inr (Or.inr (Or.inl ⟨rfl, rfl, rfl, good_expr hT h1, p1, p2, (ih.block _ _ _ _ h3).2, rfl⟩))))))))
    ·rw [if_neg c] at h
     cases h
     rw [GoodS]
     exact Or.inr (Or.inr (Or.inr (Or.inr (Or.inr (Or.inr (Or.inr (Or.inr (Or.inl ⟨rfl, rfl, rfl, good_expr hT h1, p1, p2, goodSs_nil _, rfl⟩))))))))
   rw [if_neg c7] at h
   by_cases c8 : (pk E n).text = tFor
   ·rw [if_pos c8] at h
    obtain ⟨y, n1, h1, h⟩ := bind_ok h
    obtain ⟨a, n2, h2, h⟩ := bind_ok h
    cases h
    obtain ⟨p1, p2⟩ := ih.block _ _ _ _ h2
    rw [GoodS]
    exact Or.inr (Or.inr (Or.inr (Or.inr (Or.inr (Or.inr (Or.inr (Or.inr (Or.inr (Or.inl ⟨rfl, rfl, rfl, good_expr hT h1, p1, p2, rfl, rfl⟩)))))))))
   rw [if_neg c8] at h
   by_cases c9 : (pk E n).text = tSelect
   ·rw [if_pos c9] at h
    obtain ⟨_, n1, h1, h⟩ := bind_ok h
    obtain ⟨a, n2, h2, h⟩ := bind_ok h
    obtain ⟨_, n3, h3, h⟩ := bind_ok h
    cases h
    obtain ⟨q1, q2⟩ := ih.cases _ _ _ _ _ h2 (Nat.zero_le _) (goodCs_nil _)
    rw [GoodS]
    exact Or.inr (Or.inr (Or.inr (Or.inr (Or.inr (Or.inr (Or.inr (Or.inr (Or.inr (Or.inr (⟨rfl, rfl, rfl, rfl, rfl, rfl, (open_one h1).2, q1, q2⟩))))))))))
   rw [if_neg c9] at h
   exact good_plain hT h
  ·intro dep a n x m h ha hg
   rw [cases_eq] at h
   by_cases c : (pk E n).text = tRb
   ·rw [if_pos c] at h
    cases h
    exact ⟨ha, hg⟩
   rw [if_neg c] at h
   by_cases c2 : 6 <= a.len
   ·rw [if_pos c2] at h; exact (fail_ok h).elim
   rw [if_neg c2] at h
   obtain ⟨y, n1, h1, h⟩ := bind_ok h
   exact ih.cases _ _ _ _ _ h (by rw [Cas.len_snocT]; omega) (goodCs_snoc _ _ _ hg (ih.oneCase _ _ _ _ h1))
  ·intro dep n x m h
   rw [oneCase_eq] at h
   by_cases c : (pk E n).text = tDefault
   ·rw [if_pos c] at h
    obtain ⟨_, n1, h1, h⟩ := bind_ok h
    obtain ⟨l, n2, h2, h⟩ := bind_ok h
    cases h
    rw [GoodC]
    exact ⟨Or.inr (Or.inr (Or.inr ⟨rfl, rfl, rfl, rfl⟩)), ih.stmts _ _ _ _ _ _ h2 (goodSs_nil _)⟩
   rw [if_neg c] at h
   obtain ⟨_, n1, h1, h⟩ := bind_ok h
   obtain ⟨t, n2, h2, h⟩ := bind_ok h
   obtain ⟨_, n3, h3, h⟩ := bind_ok h
   obtain ⟨l, n4, h4, h⟩ := bind_ok h
   cases h
   rw [GoodC]
   refine ⟨?_, ih.stmts _ _ _ _ _ _ h4 (goodSs_nil _)⟩
   rcases good_talk hT h2 with q | q | q
   ·exact Or.inl q
   ·exact Or.inr (Or.inl q)
   ·exact Or.inr (Or.inr (Or.inl q))
theorem kindV_le (t : B) : kindV t <= 3 := by
 unfold kindV
 repeat' split
 all_goals omega
theorem kind_of {E : Env} {q n m : Nat} {x : Tok} (h : takeKind E q n = .ok x m) : (pk E n).kind = q := by
 unfold takeKind Tr.fail at h
 split at h
 ·assumption
 ·cases h
theorem good_params {E : Env} (hT : TokOk E) : ∀ (f : Nat) (acc : List Pa) (n : Nat) (x : List Pa) (m : Nat), params E f acc n = .ok x m -> (∀ p ∈ acc, GoodP p) -> ∀ p ∈ x, GoodP p
 | 0, _, _, _, _, h, _ => by rw [params] at h; cases h
 | f + 1, acc, n, x, m, h, ha => by
  rw [paramsQ_eq] at h
  obtain ⟨t, n1, h1, h⟩ := bind_ok h
  have hk := kind_of h1
  obtain ⟨rfl, rfl⟩ := takeKind_one h1
  by_cases q : kindV (pk E (n + 1)).text = 0
  ·rw [if_pos q] at h; exact (fail_ok h).elim
  rw [if_neg q] at h
  have hp : ∀ p ∈ acc ++ [⟨(pk E n).text, kindV (pk E (n + 1)).text, (pk E n).at_⟩], GoodP p := fun p hp => by
   rcases List.mem_append.1 hp with h2 | h2
   ·exact ha p h2
   ·rw [List.mem_singleton.1 h2]
    exact ⟨hT.words n hk, by show 1 <= kindV _; omega, kindV_le _⟩
  by_cases q2 : (pk E (n + 1 + 1)).text = tComma
  ·rw [if_pos q2] at h
   exact good_params hT f _ _ _ _ h hp
  ·rw [if_neg q2] at h
   obtain ⟨_, n2, h2, h⟩ := bind_ok h
   cases h
   exact hp
theorem good_function {E : Env} (hT : TokOk E) {f n m : Nat} {g : Fu} (h : Tr.function E f n = .ok g m) : GoodF g := by
 unfold Tr.function at h
 obtain ⟨_, n1, h1, h⟩ := bind_ok h
 obtain ⟨t, n2, h2, h⟩ := bind_ok h
 obtain ⟨_, n3, h3, h⟩ := bind_ok h
 obtain ⟨ps, n4, h4, h⟩ := bind_ok h
 obtain ⟨b, n5, h5, h⟩ := bind_ok h
 cases h
 have hk := kind_of h2
 obtain ⟨_, rfl⟩ := takeKind_one h2
 refine ⟨hT.words n1 hk, ?_, kindV_le _, ((sgds hT f).block _ _ _ _ h5).2⟩
 by_cases q : (pk E n3).text = tRp
 ·rw [if_pos q] at h4
  cases h4
  intro p hp
  cases hp
 ·rw [if_neg q] at h4
  exact good_params hT f _ _ _ _ h4 (fun p hp => by cases hp)
theorem good_program {E : Env} (hT : TokOk E) : ∀ (f : Nat) (src : Src) (n : Nat) (x : Src) (m : Nat), Tr.program E f src n = .ok x m -> GoodSrc src -> GoodSrc x
 | 0, _, _, _, _, h, _ => by rw [Tr.program] at h; cases h
 | f + 1, src, n, x, m, h, hs => by
  rw [programQ_eq] at h
  by_cases c0 : E.toks.length <= n
  ·rw [if_pos c0] at h
   cases h
   exact hs
  rw [if_neg c0] at h
  by_cases c1 : (pk E n).text = tVar
  ·rw [if_pos c1] at h
   by_cases c2 : 8 <= src.globals.length
   ·rw [if_pos c2] at h; exact (fail_ok h).elim
   rw [if_neg c2] at h
   obtain ⟨t, n1, h1, h⟩ := bind_ok h
   obtain ⟨_, n2, h2, h⟩ := bind_ok h
   have hk := kind_of h1
   obtain ⟨_, rfl⟩ := takeKind_one h1
   refine good_program hT f _ _ _ _ h ⟨fun g hg => ?_, hs.fus, by simp; omega, hs.nf⟩
   rcases List.mem_append.1 hg with h3 | h3
   ·exact hs.gls g h3
   ·rw [List.mem_singleton.1 h3]; exact hT.words _ hk
  rw [if_neg c1] at h
  by_cases c2 : (pk E n).text = tFunc
  ·rw [if_pos c2] at h
   by_cases c3 : 12 <= src.funcs.length
   ·rw [if_pos c3] at h; exact (fail_ok h).elim
   rw [if_neg c3] at h
   obtain ⟨g, n1, h1, h⟩ := bind_ok h
   obtain ⟨_, n2, h2, h⟩ := bind_ok h
   refine good_program hT f _ _ _ _ h ⟨hs.gls, fun g' hg => ?_, hs.ng, by simp; omega⟩
   rcases List.mem_append.1 hg with h3 | h3
   ·exact hs.fus g' h3
   ·rw [List.mem_singleton.1 h3]; exact good_function hT h1
  rw [if_neg c2] at h
  exact (fail_ok h).elim
theorem word_cut {l : B} (h0 : 0 < letV l) (hk : isKeyV (l.take (wordV l)) = false) (hs : wordV l <= 12) : WordT 1 (l.take (wordV l)) := by
 have hle := wordV_le l.length l (Nat.le_refl _)
 have e1 : wordV (l.take (wordV l)) = wordV l := by
  have h1 := wordV_cut l.length l [] 32 (Nat.le_refl _) stop_32
  have h2 := wordV_ext (l.take (wordV l)).length (l.take (wordV l)) [] 32 (Nat.le_refl _) stop_32
  rw [<- h2, h1]
 have hlen : (l.take (wordV l)).length = wordV l := by rw [List.length_take]; omega
 have hal : alnV l = letV l := by unfold alnV; rw [if_neg (by omega)]
 have hw : letV l <= wordV l := by rw [wordV_eq, hal, if_neg (by omega)]; omega
 have e2 : letV (l.take (wordV l)) = letV l := by
  have h1 := letV_loc l ((l.take (wordV l)).drop (letV l)) h0
  have h2 : l.take (letV l) = (l.take (wordV l)).take (letV l) := by rw [List.take_take, Nat.min_eq_left hw]
  rw [h2, List.take_append_drop] at h1
  exact h1
 exact ⟨by rw [e1, hlen], by rw [e2]; exact h0, by rw [hk]; rfl, fun _ => by rw [hlen]; exact hs⟩
theorem tok1 {l : B} {may : Bool} {n : Nat} (hl : l ≠ []) (h : stepV l may = .cut (.tok 1 n)) : WordT 1 (l.take n) := by
 cases l with
 | nil => exact absurd rfl hl
 | cons b r =>
  rw [stepV_cons] at h
  split at h
  ·cases h
  split at h
  ·cases h
  split at h
  ·split at h <;> cases h
  ·have h2 : cutV (b :: r) = .tok 1 n := by injection h
   rw [cutV_cons] at h2
   by_cases q1 : b = 59
   ·rw [if_pos q1] at h2; cases h2
   rw [if_neg q1] at h2
   by_cases q2 : isDg b = true
   ·rw [if_pos q2] at h2
    unfold numCut at h2
    split at h2
    ·cases h2
    split at h2 <;> cases h2
   rw [if_neg q2] at h2
   by_cases q3 : 0 < letV (b :: r)
   ·rw [if_pos q3] at h2
    unfold wordCut at h2
    by_cases q4 : isKeyV ((b :: r).take (wordV (b :: r))) = true
    ·rw [if_pos q4] at h2; cases h2
    rw [if_neg q4] at h2
    by_cases q5 : 12 < wordV (b :: r)
    ·rw [if_pos q5] at h2; cases h2
    rw [if_neg q5] at h2
    have hn : wordV (b :: r) = n := by injection h2
    rw [<- hn]
    exact word_cut q3 (by simpa using q4) (by omega)
   ·rw [if_neg q3] at h2
    unfold sigCut at h2
    split at h2 <;> cases h2
theorem words_text : ∀ (l : B) (a : Nat) (may : Bool) (ts : List Tok), lx l a may = (ts, none) -> ∀ t ∈ ts, t.kind = 1 -> WordT 1 t.text := by
 refine lx_induct (fun _ _ _ ts => ∀ t ∈ ts, t.kind = 1 -> WordT 1 t.text) ?_ ?_ ?_
 ·intro a may t ht hk
  unfold endV at ht
  split at ht
  ·simp at ht; subst ht; cases hk
  ·cases ht
 ·intro l a may n ts _ _ _ _ _ ih
  exact ih
 ·intro l a may k n ts hl hs h1 h2 _ ih t ht hk
  rcases List.mem_cons.1 ht with rfl | ht
  ·have hk' : k = 1 := hk
   subst hk'
   exact tok1 hl hs
  ·exact ih t ht hk
theorem tok_ok {l : B} {ts : List Tok} {e : Nat} (hts : lx l 0 false = (ts, none)) : TokOk ⟨ts, e⟩ := by
 have key : ∀ n, (pk ⟨ts, e⟩ n).kind ≠ 0 -> pk ⟨ts, e⟩ n ∈ ts := fun n hk => by
  have hlt := pk_kind_lt (E := ⟨ts, e⟩) (n := n) hk
  have h1 : ts[n]? = some ts[n] := List.getElem?_eq_getElem hlt
  have h2 : pk ⟨ts, e⟩ n = ts[n] := by unfold pk; rw [h1]; rfl
  rw [h2]
  exact List.getElem_mem hlt
 exact ⟨fun n hk => words_text _ _ _ _ hts _ (key n (by rw [hk]; decide)) hk, fun n hk => nums_text _ _ _ _ hts _ (key n (by rw [hk]; decide)) hk⟩
theorem again {l : B} {ts : List Tok} {e m : Nat} {s : Src} (hts : lx l 0 false = (ts, none)) (h : Ev (fun f => Tr.program ⟨ts, e⟩ f ⟨[], []⟩ 0) (.ok s m)) : ∃ us, lx (printV s) 0 false = (us, none) /\ ∀ en r, Ev (fun f => Tr.program ⟨us, en⟩ f ⟨[], []⟩ 0) r -> ∃ s' m', r = .ok s' m' /\ printV s' = printV s := by
 obtain ⟨_, f0, h⟩ := h
 have hg : GoodSrc s := good_program (tok_ok hts) f0 ⟨[], []⟩ 0 s m (h f0 (Nat.le_refl _)) ⟨fun g hg => (by cases hg), fun g hg => (by cases hg), Nat.zero_le _, Nat.zero_le _⟩
 obtain ⟨us, h1, h2⟩ := src_lx hg
 refine ⟨us, h1, fun en r hr => ?_⟩
 obtain ⟨s', e1, e2, hev⟩ := src_rd (en := en) hg h2
 exact ⟨s', us.length, Ev.det hr hev, printV_E e1 e2⟩
mutual
def brV : Ex -> B
 | .nil => []
 | .mk code at_ n op nm l r zs =>
  if code = 5 then [40] ++ (brV l ++ (sgV op ++ ([32] ++ (brV r ++ [41]))))
  else if code = 6 then signL op ++ ([40] ++ (brV l ++ [41]))
  else if code = 10 then tArrow ++ ([40] ++ (brV l ++ [41]))
  else if code = 8 then tMake ++ ([40] ++ (([40] ++ (brV l ++ [41])) ++ [41]))
  else if code = 9 then tLen ++ ([40] ++ (([40] ++ (brV l ++ [41])) ++ [41]))
  else if code = 7 then nm ++ ([40] ++ (brAV true zs ++ [41]))
  else [40] ++ (bareV (.mk code at_ n op nm l r zs) ++ [41])
def brAV : Bool -> Exs -> B
 | _, .nil => []
 | f, .cons x xs => (if f then [] else [44]) ++ (([40] ++ (brV x ++ [41])) ++ brAV false xs)
end
mutual
def brT : Ex -> List (Nat × B)
 | .nil => []
 | .mk code at_ n op nm l r zs =>
  if code = 5 then [(4, [40])] ++ (brT l ++ ([(4, sgV op)] ++ (brT r ++ [(4, [41])])))
  else if code = 6 then [(4, signL op)] ++ ([(4, [40])] ++ (brT l ++ [(4, [41])]))
  else if code = 10 then [(4, tArrow)] ++ ([(4, [40])] ++ (brT l ++ [(4, [41])]))
  else if code = 8 then [(2, tMake)] ++ ([(4, [40])] ++ (([(4, [40])] ++ (brT l ++ [(4, [41])])) ++ [(4, [41])]))
  else if code = 9 then [(2, tLen)] ++ ([(4, [40])] ++ (([(4, [40])] ++ (brT l ++ [(4, [41])])) ++ [(4, [41])]))
  else if code = 7 then [(1, nm)] ++ ([(4, [40])] ++ (brAT true zs ++ [(4, [41])]))
  else [(4, [40])] ++ (bareT (.mk code at_ n op nm l r zs) ++ [(4, [41])])
def brAT : Bool -> Exs -> List (Nat × B)
 | _, .nil => []
 | f, .cons x xs => (if f then [] else [(4, [44])]) ++ (([(4, [40])] ++ (brT x ++ [(4, [41])])) ++ brAT false xs)
end
def RdOr (g : Nat -> Res Ex) (x : Ex) (m : Nat) : Prop := (∃ x', exE x' = exE x /\ Ev g (.ok x' m)) \/ ∃ a, Ev g (.bad 4 a)
theorem RdOr.bind {g : Nat -> Res Ex} {h : Nat -> Res Ex} {k : Nat -> Ex -> Nat -> Res Ex} {x y : Ex} {m p : Nat} (hg : RdOr g x m) (e : ∀ f, h (f + 1) = (g f).bind (k f)) (hk : ∀ x', exE x' = exE x -> ∃ y', exE y' = exE y /\ Ev (fun f => k f x' m) (.ok y' p)) : RdOr h y p := by
 rcases hg with ⟨x', e1, hev⟩ | ⟨a, hev⟩
 ·obtain ⟨y', e2, hev2⟩ := hk x' e1
  exact Or.inl ⟨y', e2, Ev.step e (Ev.then hev hev2)⟩
 ·exact Or.inr ⟨a, Ev.step e (Ev.bad hev)⟩
theorem RdOr.as {g h : Nat -> Res Ex} {x : Ex} {m : Nat} (hg : RdOr g x m) (e : ∀ f, h (f + 1) = g f) : RdOr h x m := by
 rcases hg with ⟨x', e1, hev⟩ | ⟨a, hev⟩
 ·exact Or.inl ⟨x', e1, Ev.step e hev⟩
 ·exact Or.inr ⟨a, Ev.step e hev⟩
theorem tied_or {E : Env} {d n m : Nat} {x : Ex} (h : RdOr (fun f => one E f d n) x m) (hl : levV (opV (pk E m).text) = 0) : ∀ j k, k + j = 6 -> 1 <= k -> RdOr (fun f => tied E f k d n) x m
 | 0, k, e, _ => by
  obtain rfl : k = 6 := by omega
  exact h.as (fun f => by rw [tied_eq, if_pos rfl])
 | j + 1, k, e, hk => (tied_or h hl j (k + 1) (by omega) (by omega)).bind (h := fun f => tied E f k d n) (k := fun f x m => tloop E f k d x m) (fun f => by rw [tied_eq, if_neg (by omega)]) (fun x' e1 => ⟨x', e1, Ev.now (fun e => by cases e) fun f => by rw [tloop_eq, if_neg (by omega)]⟩)
theorem br_or {E : Env} {d n m : Nat} {x : Ex} (h : RdOr (fun f => tied E f 1 (d + 1) (n + 1)) x m) (h1 : (pk E n).text = [40]) (h2 : (pk E m).text = [41]) : RdOr (fun f => bracketed E f d n) x (m + 1) :=
 h.bind (h := fun f => bracketed E f d n) (k := fun f x n2 => (take E tRp n2).bind fun _ n3 => .ok x n3) (fun f => by rw [bracketed_eq, take_ev (show (pk E n).text = tLp from h1)]; rfl) (fun x' e1 => ⟨x', e1, Ev.pure (fun e => by cases e) fun f => by rw [take_ev (show (pk E m).text = tRp from h2)]; rfl⟩)
theorem deep {E : Env} {d n : Nat} {x : Ex} {m : Nat} (hd : 12 < d) : RdOr (fun f => one E f d n) x m := Or.inr ⟨(pk E n).at_, Ev.now (fun e => by cases e) fun f => by rw [Tr.one, if_pos hd]; rfl⟩
theorem par_or {E : Env} {d n m : Nat} {x : Ex} (h : RdOr (fun f => bracketed E f d n) x m) (hk : (pk E n).kind = 4) (ht : (pk E n).text = [40]) : RdOr (fun f => one E f d n) x m := by
 by_cases hd : 12 < d
 ·exact deep hd
 ·exact h.as (fun f => by rw [Tr.one, if_neg hd, hk, ht, if_neg (by decide), if_neg (by decide), if_pos (show ([40] : B) = tLp from rfl)])
theorem paren_or {E : Env} {d n : Nat} {x : Ex} {ks us : List (Nat × B)} (h : ∀ (d n : Nat), At E n ks -> RdOr (fun f => one E f d n) x (n + ks.length)) (ha : At E n ([(4, [40])] ++ (ks ++ [(4, [41])]) ++ us)) : RdOr (fun f => bracketed E f d n) x (n + 1 + ks.length + 1) /\ RdOr (fun f => one E f d n) x (n + 1 + ks.length + 1) := by
 have ha' : At E n ((4, [40]) :: ((ks ++ [(4, [41])]) ++ us)) := ha
 have h1 := ha'.head
 have h2 := ha'.tail.left
 have h41 : (pk E (n + 1 + ks.length)).text = [41] := (At.head (ks := []) h2.right).2
 have hb := br_or (d := d) (tied_or (h (d + 1) (n + 1) h2.left) (by rw [h41, lev41]) 5 1 rfl (by decide)) h1.2 h41
 exact ⟨hb, par_or hb h1.1 h1.2⟩
def BrRd (x : Ex) : Prop := ∀ (E : Env) (d0 d n : Nat), GoodB x d0 -> At E n (brT x) -> RdOr (fun f => one E f d n) x (n + (brT x).length)
def BrAs : Exs -> Prop
 | .nil => True
 | .cons x xs => BrRd x /\ BrAs xs
theorem br_leaf {code a k op : Nat} {nm : B} {l r : Ex} {zs : Exs} (hc : code <= 4) : BrRd (.mk code a k op nm l r zs) := fun E d0 d n hg ha => by
 have et : brT (.mk code a k op nm l r zs) = [(4, [40])] ++ (bareT (.mk code a k op nm l r zs) ++ [(4, [41])]) := by
  rw [brT, if_neg (by omega), if_neg (by omega), if_neg (by omega), if_neg (by omega), if_neg (by omega), if_neg (by omega)]
 have e6 : exT 6 (.mk code a k op nm l r zs) = bareT (.mk code a k op nm l r zs) := by unfold exT; rw [exWT_no (fun e => by omega)]
 rw [et] at ha ⊢
 have hl : n + ([(4, [40])] ++ (bareT (.mk code a k op nm l r zs) ++ [((4 : Nat), ([41] : B))])).length = n + 1 + (bareT (.mk code a k op nm l r zs)).length + 1 := by simp only [List.length_append, List.length_cons, List.length_nil]; omega
 rw [hl]
 have ha2 : At E (n + 1) (bareT (.mk code a k op nm l r zs) ++ [(4, [41])]) := At.tail (t := [40]) ha
 have h41 : (pk E (n + 1 + (bareT (.mk code a k op nm l r zs)).length)).text = [41] := (At.head (ks := []) ha2.right).2
 have h1 := At.head (ks := bareT (.mk code a k op nm l r zs) ++ [(4, [41])]) ha
 have hone : RdOr (fun f => one E f (d + 1) (n + 1)) (.mk code a k op nm l r zs) (n + 1 + (bareT (.mk code a k op nm l r zs)).length) := by
  by_cases hd : 12 < d + 1
  ·exact deep hd
  ·have hg2 : GoodB (.mk code a k op nm l r zs) (d + 1 + brk 6 (.mk code a k op nm l r zs)) := by
    rw [brk_no (fun e => by omega)]
    rw [GoodB] at hg ⊢
    refine ⟨by omega, ?_⟩
    rcases hg.2 with h | h | h | h | ⟨h, _⟩ | ⟨h, _⟩ | ⟨h, _⟩ | ⟨h, _⟩ | ⟨h, _⟩
    ·exact Or.inl h
    ·exact Or.inr (Or.inl h)
    ·exact Or.inr (Or.inr (Or.inl h))
    ·exact Or.inr (Or.inr (Or.inr (Or.inl h)))
    all_goals omega
   obtain ⟨x', e, hev⟩ := (all_ok (.mk code a k op nm l r zs)).1 E (d + 1) (n + 1) hg2 (by rw [e6]; exact ha2.left) (by rw [e6, h41]; decide)
   rw [e6] at hev
   exact Or.inl ⟨x', e, hev⟩
 exact par_or (br_or (tied_or hone (by rw [h41, lev41]) 5 1 rfl (by decide)) h1.2 h41) h1.1 h1.2
theorem br_un {code a op : Nat} {z : B} {l : Ex} (hl : BrRd l) {E : Env} {d0 d n : Nat} (hg : GoodB l d0) (hz : (code = 6 /\ (z = [45] \/ z = [94] \/ z = [33]) /\ op1V z = op) \/ (code = 10 /\ z = tArrow /\ op = 0)) (ha : At E n ([(4, z)] ++ ([(4, [40])] ++ (brT l ++ [(4, [41])])))) :
  RdOr (fun f => one E f d n) (.mk code a 0 op [] l .nil .nil) (n + ([(4, z)] ++ ([(4, [40])] ++ (brT l ++ [((4 : Nat), ([41] : B))]))).length) := by
 have hlen : n + ([(4, z)] ++ ([(4, [40])] ++ (brT l ++ [((4 : Nat), ([41] : B))]))).length = n + 1 + 1 + (brT l).length + 1 := by simp only [List.length_append, List.length_cons, List.length_nil]; omega
 rw [hlen]
 have h1 := At.head (ks := [(4, [40])] ++ (brT l ++ [(4, [41])])) ha
 have ha2 : At E (n + 1) ([(4, [40])] ++ (brT l ++ [(4, [41])]) ++ []) := by rw [List.append_nil]; exact At.tail (t := z) ha
 have hp := (paren_or (d := d + 1) (fun d n h => hl E d0 d n hg h) ha2).2
 by_cases hd : 12 < d
 ·exact deep hd
 rcases hz with ⟨rfl, hz2, hz3⟩ | ⟨rfl, rfl, rfl⟩
 ·refine hp.bind (h := fun f => one E f d n) (k := fun f x m => .ok (.mk 6 (pk E n).at_ 0 op [] x .nil .nil) m) (fun f => ?_) (fun x' e => ⟨_, exE_mk e rfl rfl, Ev.pure (fun e => by cases e) fun f => rfl⟩)
  rw [Tr.one, if_neg hd, h1.1, h1.2, if_neg (by decide), if_neg (by decide), if_neg (by rcases hz2 with h | h | h <;> rw [h] <;> decide), if_pos hz2, hz3]
 ·refine hp.bind (h := fun f => one E f d n) (k := fun f x m => .ok (.mk 10 (pk E n).at_ 0 0 [] x .nil .nil) m) (fun f => ?_) (fun x' e => ⟨_, exE_mk e rfl rfl, Ev.pure (fun e => by cases e) fun f => rfl⟩)
  rw [Tr.one, if_neg hd, h1.1, h1.2, if_neg (by decide), if_neg (by decide), if_neg (by decide), if_neg (by decide), if_pos rfl]
theorem parens_len (ks : List (Nat × B)) : ([(4, [40])] ++ (ks ++ [(4, [41])])).length = ks.length + 2 := by simp only [List.length_append, List.length_cons, List.length_nil]; omega
theorem br_mk {code a : Nat} {z : B} {l : Ex} (hl : BrRd l) {E : Env} {d0 d n : Nat} (hg : GoodB l d0) (hz : (code = 8 /\ z = tMake) \/ (code = 9 /\ z = tLen)) (ha : At E n ([(2, z)] ++ ([(4, [40])] ++ (([(4, [40])] ++ (brT l ++ [(4, [41])])) ++ [(4, [41])])))) :
  RdOr (fun f => one E f d n) (.mk code a 0 0 [] l .nil .nil) (n + ([(2, z)] ++ ([(4, [40])] ++ (([(4, [40])] ++ (brT l ++ [(4, [41])])) ++ [((4 : Nat), ([41] : B))]))).length) := by
 have hlen : n + ([(2, z)] ++ ([(4, [40])] ++ (([(4, [40])] ++ (brT l ++ [(4, [41])])) ++ [((4 : Nat), ([41] : B))]))).length = n + 1 + 1 + (brT l).length + 2 + 1 := by simp only [List.length_append, List.length_cons, List.length_nil]; omega
 rw [hlen]
 have h1 := At.head (ks := [(4, [40])] ++ (([(4, [40])] ++ (brT l ++ [(4, [41])])) ++ [(4, [41])])) ha
 have ha2 : At E (n + 1) ([(4, [40])] ++ (([(4, [40])] ++ (brT l ++ [(4, [41])])) ++ [(4, [41])]) ++ []) := by rw [List.append_nil]; exact At.tail (t := z) ha
 have hp := (paren_or (d := d) (x := l) (fun d n h => by
  have := (paren_or (d := d) (us := []) (fun d n h => hl E d0 d n hg h) (by rw [List.append_nil]; exact h)).2
  rw [parens_len, show n + ((brT l).length + 2) = n + 1 + (brT l).length + 1 by omega]
  exact this) ha2).1
 rw [parens_len, show n + 1 + 1 + ((brT l).length + 2) + 1 = n + 1 + 1 + (brT l).length + 2 + 1 by omega] at hp
 by_cases hd : 12 < d
 ·exact deep hd
 rcases hz with ⟨rfl, rfl⟩ | ⟨rfl, rfl⟩
 ·refine hp.bind (h := fun f => one E f d n) (k := fun f x m => .ok (.mk 8 (pk E n).at_ 0 0 [] x .nil .nil) m) (fun f => ?_) (fun x' e => ⟨_, exE_mk e rfl rfl, Ev.pure (fun e => by cases e) fun f => rfl⟩)
  rw [Tr.one, if_neg hd, h1.1, h1.2, if_neg (by decide), if_neg (by decide), if_neg (by decide), if_neg (by decide), if_neg (by decide), if_pos rfl]
 ·refine hp.bind (h := fun f => one E f d n) (k := fun f x m => .ok (.mk 9 (pk E n).at_ 0 0 [] x .nil .nil) m) (fun f => ?_) (fun x' e => ⟨_, exE_mk e rfl rfl, Ev.pure (fun e => by cases e) fun f => rfl⟩)
  rw [Tr.one, if_neg hd, h1.1, h1.2, if_neg (by decide), if_neg (by decide), if_neg (by decide), if_neg (by decide), if_neg (by decide), if_neg (by decide), if_pos rfl]
theorem tied_go {E : Env} {d n m : Nat} {x : Ex} (h : Ev (fun f => one E f d n) (.ok x m)) : ∀ j k, k + j = 6 -> 1 <= k -> levV (opV (pk E m).text) <= k -> ∀ r, Ev (fun f => tl E f k d x m) r -> Ev (fun f => tied E f k d n) r
 | 0, k, e, _, _, r, hr => by
  obtain rfl : k = 6 := by omega
  have hr' : r = .ok x m := Ev.det hr (Ev.pure (fun e => by cases e) (fun f => by unfold tl; rw [if_pos rfl]))
  rw [hr']
  exact Ev.step (fun f => by rw [tied_eq, if_pos rfl]) h
 | j + 1, k, e, hk, hl, r, hr => by
  have hup := tied_go h j (k + 1) (by omega) (by omega) (by omega) (.ok x m) (by
   by_cases h6 : k + 1 = 6
   ·exact Ev.pure (fun e => by cases e) (fun f => by unfold tl; rw [if_pos h6])
   ·exact Ev.now (fun e => by cases e) (fun f => by unfold tl; rw [if_neg h6, tloop_eq, if_neg (by omega)]))
  refine Ev.step (h := fun f => (tied E f (k + 1) d n).bind fun x m => tloop E f k d x m) (fun f => by rw [tied_eq, if_neg (by omega)]) (Ev.then hup ?_)
  have e2 : (fun f => tl E f k d x m) = fun f => tloop E f k d x m := funext fun f => by unfold tl; rw [if_neg (by omega)]
  rw [e2] at hr
  exact hr
theorem tied_bad {E : Env} {d n a : Nat} (h : Ev (fun f => one E f d n) (.bad 4 a)) : ∀ j k, k + j = 6 -> Ev (fun f => tied E f k d n) (.bad 4 a)
 | 0, k, e => by
  obtain rfl : k = 6 := by omega
  exact Ev.step (fun f => by rw [tied_eq, if_pos rfl]) h
 | j + 1, k, e => Ev.step (h := fun f => (tied E f (k + 1) d n).bind fun x m => tloop E f k d x m) (fun f => by rw [tied_eq, if_neg (by omega)]) (Ev.bad (tied_bad h j (k + 1) (by omega)))
theorem tied_down {E : Env} {d n m : Nat} {x : Ex} (hl : levV (opV (pk E m).text) = 0) {L : Nat} (hL : L <= 5) (h : RdOr (fun f => tied E f L d n) x m) : ∀ j k, k + j = L -> 1 <= k -> RdOr (fun f => tied E f k d n) x m
 | 0, k, e, _ => by
  obtain rfl : k = L := by omega
  exact h
 | j + 1, k, e, hk => (tied_down hl hL h j (k + 1) (by omega) (by omega)).bind (h := fun f => tied E f k d n) (k := fun f x m => tloop E f k d x m) (fun f => by rw [tied_eq, if_neg (by omega)]) (fun x' e1 => ⟨x', e1, Ev.now (fun e => by cases e) fun f => by rw [tloop_eq, if_neg (by omega)]⟩)
theorem br_bin {a op : Nat} {l r : Ex} (hl : BrRd l) (hr : BrRd r) {E : Env} {d1 d2 d n : Nat} (hg1 : GoodB l d1) (hg2 : GoodB r d2) (hv : 1 <= levV op) (ha : At E n ([(4, [40])] ++ (brT l ++ ([(4, sgV op)] ++ (brT r ++ [(4, [41])]))))) :
  RdOr (fun f => one E f d n) (.mk 5 a 0 op [] l r .nil) (n + ([(4, [40])] ++ (brT l ++ ([(4, sgV op)] ++ (brT r ++ [(4, [41])])))).length) := by
 have hlen : n + ([(4, [40])] ++ (brT l ++ ([(4, sgV op)] ++ (brT r ++ [(4, [41])])))).length = n + 1 + (brT l).length + 1 + (brT r).length + 1 := by simp only [List.length_append, List.length_cons, List.length_nil]; omega
 rw [hlen]
 obtain ⟨s1, s2, s3, s4⟩ := lev_sig op (lev_lt hv) hv
 have h1 := At.head (ks := brT l ++ ([(4, sgV op)] ++ (brT r ++ [(4, [41])]))) ha
 have ha2 : At E (n + 1) (brT l ++ ([(4, sgV op)] ++ (brT r ++ [(4, [41])]))) := At.tail (t := [40]) ha
 have ha3 := ha2.right
 have hop : (pk E (n + 1 + (brT l).length)).text = sgV op := (At.head (ks := brT r ++ [(4, [41])]) ha3).2
 have ha4 : At E (n + 1 + (brT l).length + 1) (brT r ++ [(4, [41])]) := At.tail (t := sgV op) ha3
 have h41 : (pk E (n + 1 + (brT l).length + 1 + (brT r).length)).text = [41] := (At.head (ks := []) ha4.right).2
 have q1 := hl E d1 (d + 1) (n + 1) hg1 ha2.left
 have q2 := tied_or (hr E d2 (d + 1) (n + 1 + (brT l).length + 1) hg2 ha4.left) (by rw [h41, lev41]) (5 - levV op) (levV op + 1) (by omega) (by omega)
 have hL : RdOr (fun f => tied E f (levV op) (d + 1) (n + 1)) (.mk 5 a 0 op [] l r .nil) (n + 1 + (brT l).length + 1 + (brT r).length) := by
  rcases q1 with ⟨l', e1, hev1⟩ | ⟨b, hev1⟩
  ·have hgo := tied_go hev1 (6 - levV op) (levV op) (by omega) hv (by rw [hop, s2]; exact Nat.le_refl _)
   have t1 : (fun f => tl E f (levV op) (d + 1) l' (n + 1 + (brT l).length)) = fun f => tloop E f (levV op) (d + 1) l' (n + 1 + (brT l).length) := funext fun f => by unfold tl; rw [if_neg (by omega)]
   rw [t1] at hgo
   rcases q2 with ⟨r', e2, hev2⟩ | ⟨b, hev2⟩
   ·refine Or.inl ⟨.mk 5 (pk E (n + 1 + (brT l).length)).at_ 0 op [] l' r' .nil, exE_mk e1 e2 rfl, hgo _ (Ev.step (h := fun f => (tied E f (levV op + 1) (d + 1) (n + 1 + (brT l).length + 1)).bind fun y m => tloop E f (levV op) (d + 1) (.mk 5 (pk E (n + 1 + (brT l).length)).at_ 0 op [] l' y .nil) m) (fun f => ?_) (Ev.then hev2 (Ev.now (fun e => by cases e) fun f => ?_)))⟩
    ·rw [tloop_eq, hop, s2, if_pos rfl]
    ·rw [tloop_eq, if_neg (by rw [h41, lev41]; omega)]
   ·refine Or.inr ⟨b, hgo _ (Ev.step (h := fun f => (tied E f (levV op + 1) (d + 1) (n + 1 + (brT l).length + 1)).bind fun y m => tloop E f (levV op) (d + 1) (.mk 5 (pk E (n + 1 + (brT l).length)).at_ 0 op [] l' y .nil) m) (fun f => ?_) (Ev.bad hev2))⟩
    rw [tloop_eq, hop, s2, if_pos rfl]
  ·exact Or.inr ⟨b, tied_bad hev1 (6 - levV op) (levV op) (by omega)⟩
 exact par_or (br_or (tied_down (by rw [h41, lev41]) s4 hL (levV op - 1) 1 (by omega) (by decide)) h1.2 h41) h1.1 h1.2
def RdAs (g : Nat -> Res Exs) (x : Exs) (m : Nat) : Prop := (∃ x', exsE x' = exsE x /\ Ev g (.ok x' m)) \/ ∃ a, Ev g (.bad 4 a)
theorem br_args {d0 : Nat} : ∀ (zs acc acc' : Exs) {E : Env} {d n : Nat}, zs ≠ .nil -> BrAs zs -> GoodAs zs d0 -> At E n (brAT true zs ++ [(4, [41])]) -> exsE acc' = exsE acc -> RdAs (fun f => args E f d acc' n) (appE acc zs) (n + (brAT true zs).length + 1)
 | .nil, _, _, _, _, _, h, _, _, _, _ => absurd rfl h
 | .cons x .nil, acc, acc', E, d, n, _, hz, hg, ha, he => by
  rw [GoodAs] at hg
  have et : brAT true (.cons x .nil) = [(4, [40])] ++ (brT x ++ [(4, [41])]) := by
   rw [brAT, brAT]
   show [] ++ (([(4, [40])] ++ (brT x ++ [(4, [41])])) ++ []) = _
   rw [List.append_nil]; rfl
  rw [et] at ha ⊢
  have hp := (paren_or (d := d + 1) (fun d n h => hz.1 E d0 d n hg.1 h) ha).2
  have hl : n + ([(4, [40])] ++ (brT x ++ [(4, [41])])).length = n + 1 + (brT x).length + 1 := by rw [parens_len]; omega
  have h41 : (pk E (n + ([(4, [40])] ++ (brT x ++ [(4, [41])])).length)).text = [41] := (At.head (ks := []) ha.right).2
  rw [hl] at h41 ⊢
  have ht := tied_or hp (by rw [h41, lev41]) 5 1 rfl (by decide)
  rcases ht with ⟨x', e, hev⟩ | ⟨b, hev⟩
  ·refine Or.inl ⟨acc'.snoc x', by rw [exsE_snoc, e, he]; exact (exsE_snoc acc x).symm, Ev.step (h := fun f => (tied E f 1 (d + 1) n).bind fun x m => if (pk E m).text = tComma then args E f d (acc'.snoc x) (m + 1) else (take E tRp m).bind fun _ m2 => .ok (acc'.snoc x) m2) (fun f => by rw [args_eq]) (Ev.then hev (Ev.pure (fun e => by cases e) fun f => ?_))⟩
   rw [if_neg (by rw [h41]; decide), take_ev (show (pk E (n + 1 + (brT x).length + 1)).text = tRp from h41)]
   rfl
  ·exact Or.inr ⟨b, Ev.step (h := fun f => (tied E f 1 (d + 1) n).bind fun x m => if (pk E m).text = tComma then args E f d (acc'.snoc x) (m + 1) else (take E tRp m).bind fun _ m2 => .ok (acc'.snoc x) m2) (fun f => by rw [args_eq]) (Ev.bad hev)⟩
 | .cons x (.cons y ys), acc, acc', E, d, n, _, hz, hg, ha, he => by
  rw [GoodAs] at hg
  have et : brAT true (.cons x (.cons y ys)) = ([(4, [40])] ++ (brT x ++ [(4, [41])])) ++ ([(4, [44])] ++ brAT true (.cons y ys)) := by
   rw [brAT, brAT, brAT]
   rfl
  rw [et, List.append_assoc] at ha
  have hp := (paren_or (d := d + 1) (fun d n h => hz.1 E d0 d n hg.1 h) ha).2
  have hl : n + ([(4, [40])] ++ (brT x ++ [(4, [41])])).length = n + 1 + (brT x).length + 1 := by rw [parens_len]; omega
  have ha2 := ha.right
  rw [hl] at ha2
  have h44 : (pk E (n + 1 + (brT x).length + 1)).text = [44] := (At.head (ks := brAT true (.cons y ys) ++ [(4, [41])]) ha2).2
  have ha3 : At E (n + 1 + (brT x).length + 1 + 1) (brAT true (.cons y ys) ++ [(4, [41])]) := At.tail (t := [44]) ha2
  have ht := tied_or hp (by rw [h44, lev44]) 5 1 rfl (by decide)
  have hln : n + (brAT true (.cons x (.cons y ys))).length + 1 = n + 1 + (brT x).length + 1 + 1 + (brAT true (.cons y ys)).length + 1 := by
   rw [et, List.length_append, parens_len, List.length_append]
   simp only [List.length_cons, List.length_nil]
   omega
  rw [hln]
  rcases ht with ⟨x', e, hev⟩ | ⟨b, hev⟩
  ·have hrec := br_args (.cons y ys) (acc.snoc x) (acc'.snoc x') (d := d) (fun e => by cases e) hz.2 hg.2 ha3 (by rw [exsE_snoc, exsE_snoc, e, he])
   have e3 : (fun f => if (pk E (n + 1 + (brT x).length + 1)).text = tComma then args E f d (acc'.snoc x') (n + 1 + (brT x).length + 1 + 1) else (take E tRp (n + 1 + (brT x).length + 1)).bind fun _ m2 => .ok (acc'.snoc x') m2) = fun f => args E f d (acc'.snoc x') (n + 1 + (brT x).length + 1 + 1) := funext fun f => by rw [if_pos (show (pk E (n + 1 + (brT x).length + 1)).text = tComma from h44)]
   have st : ∀ r, Ev (fun f => args E f d (acc'.snoc x') (n + 1 + (brT x).length + 1 + 1)) r -> Ev (fun f => args E f d acc' n) r := fun r hr => Ev.step (h := fun f => (tied E f 1 (d + 1) n).bind fun x m => if (pk E m).text = tComma then args E f d (acc'.snoc x) (m + 1) else (take E tRp m).bind fun _ m2 => .ok (acc'.snoc x) m2) (fun f => by rw [args_eq]) (Ev.then hev (by rw [e3]; exact hr))
   rcases hrec with ⟨as', e2, hev2⟩ | ⟨b, hev2⟩
   ·exact Or.inl ⟨as', e2, st _ hev2⟩
   ·exact Or.inr ⟨b, st _ hev2⟩
  ·exact Or.inr ⟨b, Ev.step (h := fun f => (tied E f 1 (d + 1) n).bind fun x m => if (pk E m).text = tComma then args E f d (acc'.snoc x) (m + 1) else (take E tRp m).bind fun _ m2 => .ok (acc'.snoc x) m2) (fun f => by rw [args_eq]) (Ev.bad hev)⟩
theorem br_call {a : Nat} {nm : B} {zs : Exs} (hz : BrAs zs) {E : Env} {d0 d n : Nat} (hg : GoodAs zs d0) (ha : At E n ([(1, nm)] ++ ([(4, [40])] ++ (brAT true zs ++ [(4, [41])])))) : RdOr (fun f => one E f d n) (.mk 7 a 0 0 nm .nil .nil zs) (n + ([(1, nm)] ++ ([(4, [40])] ++ (brAT true zs ++ [(4, [41])]))).length) := by
 have hlen : n + ([(1, nm)] ++ ([(4, [40])] ++ (brAT true zs ++ [(4, [41])]))).length = n + 1 + 1 + (brAT true zs).length + 1 := by simp only [List.length_append, List.length_cons, List.length_nil]; omega
 rw [hlen]
 have h1 := At.head (ks := [(4, [40])] ++ (brAT true zs ++ [(4, [41])])) ha
 have ha2 : At E (n + 1) ([(4, [40])] ++ (brAT true zs ++ [(4, [41])])) := At.tail (t := nm) ha
 have h2 := At.head (ks := brAT true zs ++ [(4, [41])]) ha2
 have ha3 : At E (n + 1 + 1) (brAT true zs ++ [(4, [41])]) := At.tail (t := [40]) ha2
 by_cases hd : 12 < d
 ·exact deep hd
 have st : ∀ r, Ev (fun f => call E f d (pk E n) (n + 1)) r -> Ev (fun f => one E f d n) r := fun r hr => Ev.step (h := fun f => named E f d n) (fun f => by rw [Tr.one, if_neg hd, h1.1, if_neg (by decide), if_pos rfl]) (Ev.step (h := fun f => call E f d (pk E n) (n + 1)) (fun f => by rw [named_eq, if_pos (show (pk E (n + 1)).text = tLp from h2.2)]) hr)
 cases zs with
 | nil =>
  have hz0 : (brAT true .nil).length = 0 := by rw [brAT]; rfl
  have h41 : (pk E (n + 1 + 1)).text = [41] := by
   have := (At.head (ks := []) ha3.right).2
   rw [hz0] at this
   exact this
  rw [hz0]
  refine Or.inl ⟨.mk 7 (pk E n).at_ 0 0 (pk E n).text .nil .nil .nil, by rw [h1.2]; exact exE_mk rfl rfl rfl, st _ (Ev.now (fun e => by cases e) fun f => ?_)⟩
  rw [call_eq, take_ev (show (pk E (n + 1)).text = tLp from h2.2)]
  show (if (pk E (n + 1 + 1)).text = tRp then _ else _) = _
  rw [if_pos (show (pk E (n + 1 + 1)).text = tRp from h41)]
 | cons y ys =>
  have hny : ¬ (pk E (n + 1 + 1)).text = [41] := by
   have h5 := ha3.left
   rw [brAT] at h5
   have h6 : (pk E (n + 1 + 1)).text = [40] := (At.head (k := 4) (t := [40]) (ks := _) h5).2
   rw [h6]; decide
  have st2 : ∀ (g : Nat -> Exs -> Nat -> Res Ex), (∀ f l n2, g f l n2 = .ok (.mk 7 (pk E n).at_ 0 0 (pk E n).text .nil .nil l) n2) -> ∀ f, call E (f + 1) d (pk E n) (n + 1) = (args E f d .nil (n + 1 + 1)).bind (g f) := fun g hg2 f => by
   have hgg : g f = fun l n2 => .ok (.mk 7 (pk E n).at_ 0 0 (pk E n).text .nil .nil l) n2 := funext fun l => funext fun n2 => hg2 f l n2
   rw [call_eq, take_ev (show (pk E (n + 1)).text = tLp from h2.2), hgg]
   show (if (pk E (n + 1 + 1)).text = tRp then _ else _) = _
   rw [if_neg (show ¬ (pk E (n + 1 + 1)).text = tRp from hny)]
  rcases br_args (.cons y ys) .nil .nil (d := d) (fun e => by cases e) hz hg ha3 rfl with ⟨as', e, hev⟩ | ⟨b, hev⟩
  ·exact Or.inl ⟨.mk 7 (pk E n).at_ 0 0 (pk E n).text .nil .nil as', by rw [h1.2]; exact exE_mk rfl rfl (by rw [e, appE_nil]), st _ (Ev.step (st2 _ (fun f l n2 => rfl)) (Ev.then hev (Ev.pure (fun e => by cases e) fun f => rfl)))⟩
  ·exact Or.inr ⟨b, st _ (Ev.step (st2 (fun f l n2 => .ok (.mk 7 (pk E n).at_ 0 0 (pk E n).text .nil .nil l) n2) (fun f l n2 => rfl)) (Ev.bad hev))⟩
mutual
theorem br_all : ∀ x : Ex, BrRd x
 | .nil => fun E d0 d n hg _ => by rw [GoodB] at hg; exact hg.elim
 | .mk code a k op nm l r zs => by
  have hL := br_all l
  have hR := br_all r
  have hZ := brs_all zs
  by_cases h4 : code <= 4
  ·exact br_leaf h4
  intro E d0 d n hg ha
  rw [GoodB] at hg
  obtain ⟨_, hg⟩ := hg
  rcases hg with ⟨h, _⟩ | ⟨h, _⟩ | ⟨h, _⟩ | ⟨h, _⟩ | ⟨rfl, rfl, rfl, rfl, hv, g1, g2⟩ | ⟨rfl, rfl, rfl, rfl, rfl, ho, g1⟩ | ⟨rfl, rfl, rfl, rfl, rfl, rfl, g1⟩ | ⟨rfl | rfl, rfl, rfl, rfl, rfl, rfl, g1⟩ | ⟨rfl, rfl, rfl, hw, rfl, rfl, g1⟩
  ·omega
  ·omega
  ·omega
  ·omega
  ·have et : brT (.mk 5 a 0 op [] l r .nil) = [(4, [40])] ++ (brT l ++ ([(4, sgV op)] ++ (brT r ++ [(4, [41])]))) := by rw [brT]; rfl
   rw [et] at ha ⊢
   exact br_bin hL hR g1 g2 hv ha
  ·have hop : ∃ z, signL op = z /\ (z = [45] \/ z = [94] \/ z = [33]) /\ op1V z = op := by
    rcases ho with rfl | rfl | rfl <;> exact ⟨_, rfl, by decide, by decide⟩
   obtain ⟨z, hz, hz2, hz3⟩ := hop
   have et : brT (.mk 6 a 0 op [] l .nil .nil) = [(4, z)] ++ ([(4, [40])] ++ (brT l ++ [(4, [41])])) := by rw [brT, <- hz]; rfl
   rw [et] at ha ⊢
   exact br_un hL g1 (Or.inl ⟨rfl, hz2, hz3⟩) ha
  ·have et : brT (.mk 10 a 0 0 [] l .nil .nil) = [(4, tArrow)] ++ ([(4, [40])] ++ (brT l ++ [(4, [41])])) := by rw [brT]; rfl
   rw [et] at ha ⊢
   exact br_un hL g1 (Or.inr ⟨rfl, rfl, rfl⟩) ha
  ·have et : brT (.mk 8 a 0 0 [] l .nil .nil) = [(2, tMake)] ++ ([(4, [40])] ++ (([(4, [40])] ++ (brT l ++ [(4, [41])])) ++ [(4, [41])])) := by rw [brT]; rfl
   rw [et] at ha ⊢
   exact br_mk hL g1 (Or.inl ⟨rfl, rfl⟩) ha
  ·have et : brT (.mk 9 a 0 0 [] l .nil .nil) = [(2, tLen)] ++ ([(4, [40])] ++ (([(4, [40])] ++ (brT l ++ [(4, [41])])) ++ [(4, [41])])) := by rw [brT]; rfl
   rw [et] at ha ⊢
   exact br_mk hL g1 (Or.inr ⟨rfl, rfl⟩) ha
  ·have et : brT (.mk 7 a 0 0 nm .nil .nil zs) = [(1, nm)] ++ ([(4, [40])] ++ (brAT true zs ++ [(4, [41])])) := by rw [brT]; rfl
   rw [et] at ha ⊢
   exact br_call hZ g1 ha
theorem brs_all : ∀ zs : Exs, BrAs zs
 | .nil => trivial
 | .cons x xs => ⟨br_all x, brs_all xs⟩
end
theorem sig_bd {z : B} (hz : z ∈ sigsL) (r : B) : BdR (z ++ r) := by
 have hp := sigs_pos z hz
 have hh := sigs_heads z hz
 cases z with
 | nil => cases hp
 | cons b z' =>
  obtain ⟨q0, q1, q2, _⟩ := hh b rfl
  exact BdR.cons ⟨q0, q1, q2⟩
mutual
theorem lex_br : ∀ (x : Ex) (d : Nat), GoodB x d -> LexE (brV x) (brT x)
 | .nil, _, h => by rw [GoodB] at h; exact h.elim
 | .mk code a n op nm l r zs, d, h => by
  by_cases h4 : code <= 4
  ·have e1 : brV (.mk code a n op nm l r zs) = [40] ++ (bareV (.mk code a n op nm l r zs) ++ [41]) := by
    rw [brV, if_neg (by omega), if_neg (by omega), if_neg (by omega), if_neg (by omega), if_neg (by omega), if_neg (by omega)]
   have e2 : brT (.mk code a n op nm l r zs) = [(4, [40])] ++ (bareT (.mk code a n op nm l r zs) ++ [(4, [41])]) := by
    rw [brT, if_neg (by omega), if_neg (by omega), if_neg (by omega), if_neg (by omega), if_neg (by omega), if_neg (by omega)]
   rw [e1, e2]
   exact (lex_ex _ d h).brackets
  rw [GoodB] at h
  obtain ⟨_, h⟩ := h
  rcases h with ⟨h, _⟩ | ⟨h, _⟩ | ⟨h, _⟩ | ⟨h, _⟩ | ⟨rfl, _, _, _, hv, h1, h2⟩ | ⟨rfl, _, _, _, _, ho, h1⟩ | ⟨rfl, _, _, _, _, _, h1⟩ | ⟨rfl | rfl, _, _, _, _, _, h1⟩ | ⟨rfl, _, _, hw, _, _, h1⟩
  ·omega
  ·omega
  ·omega
  ·omega
  ·rw [show brV (.mk 5 a n op nm l r zs) = [40] ++ (brV l ++ (sgV op ++ ([32] ++ (brV r ++ [41])))) by rw [brV]; rfl, show brT (.mk 5 a n op nm l r zs) = [(4, [40])] ++ (brT l ++ ([(4, sgV op)] ++ (brT r ++ [(4, [41])]))) by rw [brT]; rfl]
   have k1 := lex_br l _ h1
   have k2 := lex_br r _ h2
   have hz := (lev_sig op (lev_lt hv) hv).1
   exact ⟨⟨by simp, by simp⟩, fun q _ => (Lz.sig (sig_lp _)).app ((k1.cut _ (by rw [List.append_assoc]; exact sig_bd hz _)).app ((Lz.sig (SigT.stop hz stop_32)).app ((Lz.sp _).app ((k2.cut _ (BdR.cons bd_41)).app (Lz.sig (sig_rp q))))))⟩
  ·rw [show brV (.mk 6 a n op nm l r zs) = signL op ++ ([40] ++ (brV l ++ [41])) by rw [brV]; rfl, show brT (.mk 6 a n op nm l r zs) = [(4, signL op)] ++ ([(4, [40])] ++ (brT l ++ [(4, [41])])) by rw [brT]; rfl]
   exact lex_un (by rcases ho with rfl | rfl | rfl <;> decide) (lex_br l _ h1).brackets
  ·rw [show brV (.mk 10 a n op nm l r zs) = tArrow ++ ([40] ++ (brV l ++ [41])) by rw [brV]; rfl, show brT (.mk 10 a n op nm l r zs) = [(4, tArrow)] ++ ([(4, [40])] ++ (brT l ++ [(4, [41])])) by rw [brT]; rfl]
   exact lex_un (Or.inr (Or.inr (Or.inr rfl))) (lex_br l _ h1).brackets
  ·rw [show brV (.mk 8 a n op nm l r zs) = tMake ++ ([40] ++ (([40] ++ (brV l ++ [41])) ++ [41])) by rw [brV]; rfl, show brT (.mk 8 a n op nm l r zs) = [(2, tMake)] ++ ([(4, [40])] ++ (([(4, [40])] ++ (brT l ++ [(4, [41])])) ++ [(4, [41])])) by rw [brT]; rfl]
   exact lex_call kw_make (fun q hq => Or.inr ((lex_br l _ h1).brackets.cut q hq))
  ·rw [show brV (.mk 9 a n op nm l r zs) = tLen ++ ([40] ++ (([40] ++ (brV l ++ [41])) ++ [41])) by rw [brV]; rfl, show brT (.mk 9 a n op nm l r zs) = [(2, tLen)] ++ ([(4, [40])] ++ (([(4, [40])] ++ (brT l ++ [(4, [41])])) ++ [(4, [41])])) by rw [brT]; rfl]
   exact lex_call kw_len (fun q hq => Or.inr ((lex_br l _ h1).brackets.cut q hq))
  ·rw [show brV (.mk 7 a n op nm l r zs) = nm ++ ([40] ++ (brAV true zs ++ [41])) by rw [brV]; rfl, show brT (.mk 7 a n op nm l r zs) = [(1, nm)] ++ ([(4, [40])] ++ (brAT true zs ++ [(4, [41])])) by rw [brT]; rfl]
   refine lex_call hw (fun q hq => ?_)
   have k := lex_bra zs true _ h1 q hq
   cases zs with
   | nil => exact Or.inl k
   | cons y ys => exact Or.inr k
theorem lex_bra : ∀ (zs : Exs) (f : Bool) (d : Nat), GoodAs zs d -> ∀ r, BdR r -> Lz (brAV f zs) (brAT f zs) (fun m => if nilE zs then m else true) r
 | .nil, f, _, _, r, _ => by rw [brAV, brAT]; exact Lz.nil r
 | .cons x xs, f, d, h, r, hr => by
  rw [GoodAs] at h
  rw [brAV, brAT]
  have k1 := (lex_br x d h.1).brackets
  have k2 := lex_bra xs false d h.2 r hr
  have hb : BdR (brAV false xs ++ r) := by
   cases xs with
   | nil => rw [brAV]; exact hr
   | cons y ys => rw [brAV]; exact BdR.cons bd_44
  have k3 : Lz (([40] ++ (brV x ++ [41])) ++ brAV false xs) (([(4, [40])] ++ (brT x ++ [(4, [41])])) ++ brAT false xs) (fun _ => true) r := ((k1.cut _ hb).app k2).fl (fun b => by show (if nilE xs then true else true) = true; split <;> rfl)
  cases f with
  | true => exact k3
  | false => exact (Lz.sig (sig_comma _)).app k3
end
def headB : B := [102, 117, 110, 99, 32, 102, 40, 41, 32, 123, 10, 112, 114, 105, 110, 116, 32]
def progB (x : Ex) : B := headB ++ (brV x ++ [10, 125])
def progT (x : Ex) : List (Nat × B) := (2, tFunc) :: (1, [102]) :: (4, [40]) :: (4, [41]) :: (4, tLb) :: (2, tPrint) :: (brT x ++ ((5, [10]) :: (4, tRb) :: (5, []) :: []))
theorem kf : wordV tFunc = tFunc.length /\ 0 < letV tFunc /\ isKeyV tFunc = true := by decide
theorem kp : wordV tPrint = tPrint.length /\ 0 < letV tPrint /\ isKeyV tPrint = true := by decide
theorem wf : WordT 1 [102] := ⟨by decide, by decide, by decide, fun _ => by decide⟩
theorem head_tail (r : B) : Lz ([40] ++ ([41] ++ ([32] ++ tLb))) ([(4, [40])] ++ ([(4, [41])] ++ [(4, tLb)])) (fun _ => false) r :=
 (Lz.sig (sig_lp _)).app ((Lz.sig (sig_rp _)).app ((Lz.sp _).app (Lz.sig (sig_lb _))))
theorem head_lz {t n : B} (ht : wordV t = t.length /\ 0 < letV t /\ isKeyV t = true) (hn : WordT 1 n) (r : B) : Lz (t ++ ([32] ++ (n ++ ([40] ++ ([41] ++ ([32] ++ tLb)))))) ([(2, t)] ++ ([(1, n)] ++ ([(4, [40])] ++ ([(4, [41])] ++ [(4, tLb)])))) (fun _ => false) (10 :: r) :=
 (kw ht (BdR.cons bd_32)).app ((Lz.sp _).app ((Lz.word hn (BdR.cons bd_40)).app (head_tail _)))
theorem l1h (r : B) : Lz ((tFunc ++ ([32] ++ ([102] ++ ([40] ++ ([41] ++ ([32] ++ tLb)))))) ++ [10]) ([(2, tFunc)] ++ ([(1, [102])] ++ ([(4, [40])] ++ ([(4, [41])] ++ [(4, tLb)])))) (fun _ => false) r := Lz.noline (head_lz kf wf r)
theorem kw_x {t v : B} {ks : List (Nat × B)} (h : wordV t = t.length /\ 0 < letV t /\ isKeyV t = true) (k : LexE v ks) (r : B) : Lz (t ++ ([32] ++ v)) ([(2, t)] ++ ks) (fun _ => true) (10 :: r) := (kw h (BdR.cons bd_32)).app ((Lz.sp _).app (k.cut _ (BdR.cons bd_10)))
theorem l2h {v : B} {ks : List (Nat × B)} (k : LexE v ks) (r : B) : Lz ((tPrint ++ ([32] ++ v)) ++ [10]) (([(2, tPrint)] ++ ks) ++ [(5, [10])]) (fun _ => false) r := Lz.line (kw_x kp k r)
theorem prog_lx {x : Ex} {d : Nat} (hg : GoodB x d) : ∃ ts, lx (progB x) 0 false = (ts, none) /\ ts.map kt = progT x := by
 have k := lex_br x d hg
 have l1 := l1h ((((tPrint ++ ([32] ++ brV x)) ++ [10]) ++ [125]) ++ [])
 have l2 := l2h k ([125] ++ [])
 have l3 : Lz [125] [(4, tRb)] (fun _ => true) [] := Lz.sig (sig_rb _)
 have e1 : ((tFunc ++ ([32] ++ ([102] ++ ([40] ++ ([41] ++ ([32] ++ tLb)))))) ++ [10]) ++ (((tPrint ++ ([32] ++ brV x)) ++ [10]) ++ [125]) = progB x := by
  unfold progB headB
  simp only [tFunc, tLb, tPrint, List.cons_append, List.nil_append, List.append_assoc]
 have e2 : ([(2, tFunc)] ++ ([(1, [102])] ++ ([(4, [40])] ++ ([(4, [41])] ++ [(4, tLb)])))) ++ ((([(2, tPrint)] ++ brT x) ++ [(5, [10])]) ++ [(4, tRb)]) = ((2, tFunc) :: (1, [102]) :: (4, [40]) :: (4, [41]) :: (4, tLb) :: (2, tPrint) :: (brT x ++ ((5, [10]) :: (4, tRb) :: [])) : List (Nat × B)) := by
  simp only [List.cons_append, List.nil_append, List.append_assoc]
 have l4 := l1.app (l2.app l3)
 rw [e1, e2] at l4
 obtain ⟨ts, e, hl⟩ := l4 0 false
 rw [List.append_nil, lx_nil] at hl
 refine ⟨ts ++ [⟨5, [], 0 + (progB x).length⟩], ?_, ?_⟩
 ·rw [hl]
  rfl
 ·rw [List.map_append, e]
  unfold progT
  simp only [List.cons_append, List.append_assoc, List.nil_append, List.map_cons, List.map_nil, kt]
theorem prog_rd {ts : List Tok} {en d : Nat} {x : Ex} {r : Res Src} (hg : GoodB x d) (ht : ts.map kt = progT x) (hr : Ev (fun f => Tr.program ⟨ts, en⟩ f ⟨[], []⟩ 0) r) :
  (∃ a, r = .bad 4 a) \/ ∃ nm a1 a2 x' m, exE x' = exE x /\ r = .ok ⟨[], [⟨nm, a1, [], 0, .cons (.mk 5 a2 [] .nil x' .nil .nil .nil) .nil⟩]⟩ m := by
 have ha : At ⟨ts, en⟩ 0 (progT x) := fun i q hi => by
  rw [<- ht, List.getElem?_map] at hi
  obtain ⟨t, h1, rfl⟩ := Option.map_eq_some_iff.1 hi
  rw [Nat.zero_add]
  unfold pk
  rw [h1]
  exact ⟨rfl, rfl⟩
 have hlen : ts.length = 1 + 1 + 1 + 1 + 1 + 1 + (brT x).length + 1 + 1 + 1 := by
  have : (progT x).length = ts.length := by rw [<- ht, List.length_map]
  rw [<- this]
  unfold progT
  simp only [List.length_cons, List.length_append, List.length_nil]
  omega
 unfold progT at ha
 have a0 := ha
 have a1 := a0.tail
 have a2 := a1.tail
 have a3 := a2.tail
 have a4 := a3.tail
 have a5 := a4.tail
 have a6 := a5.tail
 have a7 := a6.right
 have hone := br_all x ⟨ts, en⟩ d 0 (0 + 1 + 1 + 1 + 1 + 1 + 1) hg a6.left
 have htied := tied_or hone (by rw [a7.head.2]; decide) 5 1 rfl (by decide)
 have hstm : (∃ b, Ev (fun f => stmt ⟨ts, en⟩ f 1 (0 + 1 + 1 + 1 + 1 + 1)) (.bad 4 b)) \/ ∃ x', exE x' = exE x /\ Ev (fun f => stmt ⟨ts, en⟩ f 1 (0 + 1 + 1 + 1 + 1 + 1)) (.ok (stz 5 (pk ⟨ts, en⟩ (0 + 1 + 1 + 1 + 1 + 1)).at_ [] .nil x') (0 + 1 + 1 + 1 + 1 + 1 + 1 + (brT x).length)) := by
  rcases htied with ⟨x', e, hev⟩ | ⟨b, hev⟩
  ·exact Or.inr ⟨x', e, Ev.step (at_print a5.head.2) (Ev.then (g := fun f => expr ⟨ts, en⟩ f 0 (0 + 1 + 1 + 1 + 1 + 1 + 1)) hev (Ev.pure (fun e => by cases e) fun f => rfl))⟩
  ·exact Or.inl ⟨b, Ev.step (at_print a5.head.2) (Ev.bad (g := fun f => expr ⟨ts, en⟩ f 0 (0 + 1 + 1 + 1 + 1 + 1 + 1)) hev)⟩
 have stS : ∀ f, stmts ⟨ts, en⟩ (f + 1) 1 false .nil (0 + 1 + 1 + 1 + 1 + 1) = (stmt ⟨ts, en⟩ f 1 (0 + 1 + 1 + 1 + 1 + 1)).bind fun s m => if (pk ⟨ts, en⟩ m).text = tRb then stmts ⟨ts, en⟩ f 1 false (Sts.nil.snoc s) m else (takeKind ⟨ts, en⟩ 5 m).bind fun _ m2 => stmts ⟨ts, en⟩ f 1 false (Sts.nil.snoc s) m2 := fun f => by
  rw [stmts_eq, if_neg (by rw [a5.head.2]; decide)]
 have stB : ∀ f, block ⟨ts, en⟩ (f + 1) 0 (0 + 1 + 1 + 1 + 1) = (stmts ⟨ts, en⟩ f 1 false .nil (0 + 1 + 1 + 1 + 1 + 1)).bind fun l n2 => (take ⟨ts, en⟩ tRb n2).bind fun _ n3 => .ok l n3 := fun f => by
  rw [block_eq]
  unfold open_
  rw [if_neg (fun e => by have := e.2; omega), take_ev a4.head.2]
  rfl
 have stF : ∀ f, Tr.function ⟨ts, en⟩ f 0 = (block ⟨ts, en⟩ f 0 (0 + 1 + 1 + 1 + 1)).bind fun b n5 => .ok ⟨(pk ⟨ts, en⟩ (0 + 1)).text, (pk ⟨ts, en⟩ (0 + 1)).at_, [], kindV (pk ⟨ts, en⟩ (0 + 1 + 1 + 1 + 1)).text, b⟩ n5 := fun f => by
  unfold Tr.function
  rw [take_ev (show (pk ⟨ts, en⟩ 0).text = tFunc from a0.head.2)]
  show (takeKind _ 1 (0 + 1)).bind _ = _
  rw [takeKind_ev a1.head.1]
  show (take _ tLp (0 + 1 + 1)).bind _ = _
  rw [take_ev (show (pk ⟨ts, en⟩ (0 + 1 + 1)).text = tLp from a2.head.2)]
  show ((if (pk ⟨ts, en⟩ (0 + 1 + 1 + 1)).text = tRp then Res.ok [] (0 + 1 + 1 + 1 + 1) else _) : Res (List Pa)).bind _ = _
  rw [if_pos (show (pk ⟨ts, en⟩ (0 + 1 + 1 + 1)).text = tRp from a3.head.2)]
  show (block _ f 0 (if kindV (pk ⟨ts, en⟩ (0 + 1 + 1 + 1 + 1)).text = 0 then _ else _)).bind _ = _
  rw [if_pos (show kindV (pk ⟨ts, en⟩ (0 + 1 + 1 + 1 + 1)).text = 0 by rw [a4.head.2]; decide)]
 have stP : ∀ f, Tr.program ⟨ts, en⟩ (f + 1) ⟨[], []⟩ 0 = (Tr.function ⟨ts, en⟩ f 0).bind fun g m => (takeKind ⟨ts, en⟩ 5 m).bind fun _ m2 => Tr.program ⟨ts, en⟩ f (⟨[], [] ++ [g]⟩ : Src) m2 := fun f => by
  rw [programQ_eq, if_neg (by show ¬ ts.length <= 0; omega), if_neg (by rw [a0.head.2]; decide), if_pos a0.head.2, if_neg (by decide)]
 rcases hstm with ⟨b, hev⟩ | ⟨x', e, hev⟩
 ·refine Or.inl ⟨b, Ev.det hr (Ev.step stP (Ev.bad (Ev.step' stF (Ev.bad (Ev.step stB (Ev.bad (Ev.step stS (Ev.bad hev))))))))⟩
 ·have a8 := a7.tail
  have hsts : Ev (fun f => stmts ⟨ts, en⟩ f 1 false .nil (0 + 1 + 1 + 1 + 1 + 1)) (.ok (Sts.nil.snoc (stz 5 (pk ⟨ts, en⟩ (0 + 1 + 1 + 1 + 1 + 1)).at_ [] .nil x')) (0 + 1 + 1 + 1 + 1 + 1 + 1 + (brT x).length + 1)) :=
   Ev.step stS (Ev.then hev (Ev.step' (h := fun f => stmts ⟨ts, en⟩ f 1 false (Sts.nil.snoc (stz 5 (pk ⟨ts, en⟩ (0 + 1 + 1 + 1 + 1 + 1)).at_ [] .nil x')) (0 + 1 + 1 + 1 + 1 + 1 + 1 + (brT x).length + 1)) (fun f => by rw [if_neg (by rw [a7.head.2]; decide), takeKind_ev a7.head.1]; rfl) (Ev.now (fun e => by cases e) fun f => by rw [stmts_eq, if_pos (Or.inl a8.head.2)])))
  have hblk : Ev (fun f => block ⟨ts, en⟩ f 0 (0 + 1 + 1 + 1 + 1)) (.ok (Sts.nil.snoc (stz 5 (pk ⟨ts, en⟩ (0 + 1 + 1 + 1 + 1 + 1)).at_ [] .nil x')) (0 + 1 + 1 + 1 + 1 + 1 + 1 + (brT x).length + 1 + 1)) := Ev.step stB (Ev.then (k := fun _ l n2 => (take ⟨ts, en⟩ tRb n2).bind fun _ n3 => .ok l n3) hsts (Ev.pure (r := .ok (Sts.nil.snoc (stz 5 (pk ⟨ts, en⟩ (0 + 1 + 1 + 1 + 1 + 1)).at_ [] .nil x')) (0 + 1 + 1 + 1 + 1 + 1 + 1 + (brT x).length + 1 + 1)) (fun e => by cases e) fun f => by rw [take_ev a8.head.2]; rfl))
  have hfun : Ev (fun f => Tr.function ⟨ts, en⟩ f 0) (.ok ⟨(pk ⟨ts, en⟩ (0 + 1)).text, (pk ⟨ts, en⟩ (0 + 1)).at_, [], kindV (pk ⟨ts, en⟩ (0 + 1 + 1 + 1 + 1)).text, Sts.nil.snoc (stz 5 (pk ⟨ts, en⟩ (0 + 1 + 1 + 1 + 1 + 1)).at_ [] .nil x')⟩ (0 + 1 + 1 + 1 + 1 + 1 + 1 + (brT x).length + 1 + 1)) := Ev.step' stF (Ev.then (k := fun _ b n5 => (.ok (⟨(pk ⟨ts, en⟩ (0 + 1)).text, (pk ⟨ts, en⟩ (0 + 1)).at_, [], kindV (pk ⟨ts, en⟩ (0 + 1 + 1 + 1 + 1)).text, b⟩ : Fu) n5 : Res Fu)) hblk (Ev.pure (r := (.ok (⟨(pk ⟨ts, en⟩ (0 + 1)).text, (pk ⟨ts, en⟩ (0 + 1)).at_, [], kindV (pk ⟨ts, en⟩ (0 + 1 + 1 + 1 + 1)).text, Sts.nil.snoc (stz 5 (pk ⟨ts, en⟩ (0 + 1 + 1 + 1 + 1 + 1)).at_ [] .nil x')⟩ : Fu) (0 + 1 + 1 + 1 + 1 + 1 + 1 + (brT x).length + 1 + 1) : Res Fu)) (fun e => by cases e) fun f => rfl))
  have hk0 : kindV (pk ⟨ts, en⟩ (0 + 1 + 1 + 1 + 1)).text = 0 := by rw [a4.head.2]; decide
  rw [hk0] at hfun
  have hone' : ∀ (S : Src) m, ts.length <= m -> Ev (fun f => Tr.program ⟨ts, en⟩ f S m) (.ok S m) := fun S m hm => Ev.now (fun e => by cases e) fun f => by rw [programQ_eq, if_pos (by show ts.length <= m; exact hm)]
  have htk : ∀ g : Fu, Ev (fun f => (takeKind ⟨ts, en⟩ 5 (0 + 1 + 1 + 1 + 1 + 1 + 1 + (brT x).length + 1 + 1)).bind fun _ m2 => Tr.program ⟨ts, en⟩ f (⟨[], [] ++ [g]⟩ : Src) m2) (.ok ⟨[], [] ++ [g]⟩ (0 + 1 + 1 + 1 + 1 + 1 + 1 + (brT x).length + 1 + 1 + 1)) := fun g => by
   rw [takeKind_ev a8.tail.head.1]
   exact hone' _ _ (by omega)
  exact Or.inr ⟨_, _, _, x', _, e, Ev.det hr (Ev.step stP (Ev.then hfun (htk _)))⟩
theorem bare_le_ex (least : Nat) (x : Ex) : (bareV x).length <= (exV least x).length := by
 unfold exV exW
 cases x with
 | nil => rw [bareV]; exact Nat.zero_le _
 | mk c a n op nm l r zs =>
  show _ <= (if c = 5 /\ levV op < least then [40] ++ (bareV (.mk c a n op nm l r zs) ++ [41]) else bareV (.mk c a n op nm l r zs)).length
  split
  ·simp only [List.length_append, List.length_cons, List.length_nil]; omega
  ·exact Nat.le_refl _
mutual
theorem brV_len : ∀ (x : Ex) (d : Nat), GoodB x d -> (brV x).length <= 3 * (bareV x).length + 2
 | .nil, _, h => by rw [GoodB] at h; exact h.elim
 | .mk code a n op nm l r zs, d, h => by
  by_cases h4 : code <= 4
  ·have e1 : brV (.mk code a n op nm l r zs) = [40] ++ (bareV (.mk code a n op nm l r zs) ++ [41]) := by
    rw [brV, if_neg (by omega), if_neg (by omega), if_neg (by omega), if_neg (by omega), if_neg (by omega), if_neg (by omega)]
   rw [e1]
   simp only [List.length_append, List.length_cons, List.length_nil]
   omega
  rw [GoodB] at h
  obtain ⟨_, h⟩ := h
  rcases h with ⟨h, _⟩ | ⟨h, _⟩ | ⟨h, _⟩ | ⟨h, _⟩ | ⟨rfl, _, _, _, hv, h1, h2⟩ | ⟨rfl, _, _, _, _, ho, h1⟩ | ⟨rfl, _, _, _, _, _, h1⟩ | ⟨rfl | rfl, _, _, _, _, _, h1⟩ | ⟨rfl, _, _, hw, _, _, h1⟩
  ·omega
  ·omega
  ·omega
  ·omega
  ·rw [show brV (.mk 5 a n op nm l r zs) = [40] ++ (brV l ++ (sgV op ++ ([32] ++ (brV r ++ [41])))) by rw [brV]; rfl, show bareV (.mk 5 a n op nm l r zs) = exV (levV op) l ++ ([32] ++ (sgV op ++ ([32] ++ exV (levV op + 1) r))) by rw [bareV]; rfl]
   have k1 := brV_len l _ h1
   have k2 := brV_len r _ h2
   have b1 := bare_le_ex (levV op) l
   have b2 := bare_le_ex (levV op + 1) r
   simp only [List.length_append, List.length_cons, List.length_nil]
   omega
  ·rw [show brV (.mk 6 a n op nm l r zs) = signL op ++ ([40] ++ (brV l ++ [41])) by rw [brV]; rfl, show bareV (.mk 6 a n op nm l r zs) = signL op ++ exV 6 l by rw [bareV]; rfl]
   have k1 := brV_len l _ h1
   have b1 := bare_le_ex 6 l
   have hs : 1 <= (signL op).length := by rcases ho with rfl | rfl | rfl <;> decide
   simp only [List.length_append, List.length_cons, List.length_nil]
   omega
  ·rw [show brV (.mk 10 a n op nm l r zs) = tArrow ++ ([40] ++ (brV l ++ [41])) by rw [brV]; rfl, show bareV (.mk 10 a n op nm l r zs) = tArrow ++ exV 6 l by rw [bareV]; rfl]
   have k1 := brV_len l _ h1
   have b1 := bare_le_ex 6 l
   have hs : tArrow.length = 2 := rfl
   simp only [List.length_append, List.length_cons, List.length_nil]
   omega
  ·rw [show brV (.mk 8 a n op nm l r zs) = tMake ++ ([40] ++ (([40] ++ (brV l ++ [41])) ++ [41])) by rw [brV]; rfl, show bareV (.mk 8 a n op nm l r zs) = tMake ++ ([40] ++ (exV 1 l ++ [41])) by rw [bareV]; rfl]
   have k1 := brV_len l _ h1
   have b1 := bare_le_ex 1 l
   simp only [List.length_append, List.length_cons, List.length_nil]
   omega
  ·rw [show brV (.mk 9 a n op nm l r zs) = tLen ++ ([40] ++ (([40] ++ (brV l ++ [41])) ++ [41])) by rw [brV]; rfl, show bareV (.mk 9 a n op nm l r zs) = tLen ++ ([40] ++ (exV 1 l ++ [41])) by rw [bareV]; rfl]
   have k1 := brV_len l _ h1
   have b1 := bare_le_ex 1 l
   simp only [List.length_append, List.length_cons, List.length_nil]
   omega
  ·rw [show brV (.mk 7 a n op nm l r zs) = nm ++ ([40] ++ (brAV true zs ++ [41])) by rw [brV]; rfl, show bareV (.mk 7 a n op nm l r zs) = nm ++ ([40] ++ (argV true zs ++ [41])) by rw [bareV]; rfl]
   have k1 := brAV_len zs true _ h1
   simp only [List.length_append, List.length_cons, List.length_nil]
   simp only [if_true] at k1
   omega
theorem brAV_len : ∀ (zs : Exs) (f : Bool) (d : Nat), GoodAs zs d -> (brAV f zs).length <= 3 * (argV f zs).length + if f then 4 else 0
 | .nil, f, _, _ => by rw [brAV]; exact Nat.zero_le _
 | .cons x xs, f, d, h => by
  rw [GoodAs] at h
  have k1 := brV_len x d h.1
  have k2 := brAV_len xs false d h.2
  have b1 : (bareV x).length <= (exW 1 x (bareV x)).length := bare_le_ex 1 x
  rw [if_neg (by simp)] at k2
  cases f with
  | true =>
   rw [brAV, argV]
   simp only [List.length_append, List.length_cons, List.length_nil, if_true]
   omega
  | false =>
   rw [brAV, argV]
   simp only [List.length_append, List.length_cons, List.length_nil, Bool.false_eq_true, if_false]
   omega
end
def St.val : St -> Ex
 | .mk _ _ _ _ v _ _ _ => v
theorem val_good {s : St} {dep d : Nat} (h : GoodS s dep) : s.val = .nil \/ (∃ d', GoodB s.val d') /\ (bareV s.val).length <= (stV d s).length := by
 obtain ⟨code, a, nm, dst, v, thn, els, cs⟩ := s
 rw [GoodS] at h
 have b1 := bare_le_ex 1 v
 show v = .nil \/ (∃ d', GoodB v d') /\ (bareV v).length <= _
 rw [stV]
 rcases h with ⟨rfl | rfl, _, _, hg, _⟩ | ⟨rfl, _, _, hg, _⟩ | ⟨rfl, _, _, hg, _⟩ | ⟨rfl | rfl, _, _, hg, _⟩ | ⟨rfl, _, _, hg, _⟩ | ⟨rfl, _, _, hg, _⟩ | ⟨rfl | rfl, _, _, hg, _⟩ | ⟨rfl, _, _, hg, _⟩ | ⟨rfl, _, _, hg, _⟩ | ⟨rfl, _, _, hg, _⟩ | ⟨rfl, _, _, hg, _⟩
 ·exact Or.inr ⟨⟨_, hg⟩, by rw [if_pos rfl, lineV_len]; simp only [List.length_append]; omega⟩
 ·exact Or.inr ⟨⟨_, hg⟩, by rw [if_neg (by decide), if_pos rfl, lineV_len]; simp only [List.length_append]; omega⟩
 ·exact Or.inr ⟨⟨_, hg⟩, by rw [if_neg (by decide), if_neg (by decide), if_pos rfl, lineV_len]; unfold sentV; simp only [List.length_append]; omega⟩
 ·exact Or.inr ⟨⟨_, hg⟩, by rw [if_neg (by decide), if_neg (by decide), if_neg (by decide), if_pos rfl, lineV_len]; simp only [List.length_append]; omega⟩
 ·exact Or.inr ⟨⟨_, hg⟩, by rw [if_neg (by decide), if_neg (by decide), if_neg (by decide), if_neg (by decide), if_pos rfl, lineV_len]; simp only [List.length_append]; omega⟩
 ·exact Or.inr ⟨⟨_, hg⟩, by rw [if_neg (by decide), if_neg (by decide), if_neg (by decide), if_neg (by decide), if_neg (by decide), if_pos rfl, lineV_len]; simp only [List.length_append]; omega⟩
 ·exact Or.inr ⟨⟨_, hg⟩, by rw [if_neg (by decide), if_neg (by decide), if_neg (by decide), if_neg (by decide), if_neg (by decide), if_neg (by decide), if_pos rfl, lineV_len]; simp only [List.length_append]; omega⟩
 ·rcases hg with rfl | hg
  ·exact Or.inl rfl
  ·refine Or.inr ⟨⟨_, hg⟩, ?_⟩
   rw [if_neg (by decide), if_neg (by decide), if_neg (by decide), if_neg (by decide), if_neg (by decide), if_neg (by decide), if_neg (by decide), if_pos rfl]
   cases v with
   | nil => rw [GoodB] at hg; exact hg.elim
   | mk c a2 n op nm2 l r zs =>
    unfold giveV
    simp only [lineV_len, List.length_append]
    omega
 ·exact Or.inl hg
 ·exact Or.inl hg
 ·exact Or.inr ⟨⟨_, hg⟩, by rw [if_neg (by decide), if_neg (by decide), if_neg (by decide), if_neg (by decide), if_neg (by decide), if_neg (by decide), if_neg (by decide), if_neg (by decide), if_neg (by decide), if_neg (by decide), if_pos rfl, lineV_len]; omega⟩
 ·exact Or.inr ⟨⟨_, hg⟩, by rw [if_neg (by decide), if_neg (by decide), if_neg (by decide), if_neg (by decide), if_neg (by decide), if_neg (by decide), if_neg (by decide), if_neg (by decide), if_neg (by decide), if_neg (by decide), if_neg (by decide), if_pos rfl]; simp only [List.length_append, lineV_len]; omega⟩
 ·exact Or.inr ⟨⟨_, hg⟩, by rw [if_neg (by decide), if_neg (by decide), if_neg (by decide), if_neg (by decide), if_neg (by decide), if_neg (by decide), if_neg (by decide), if_neg (by decide), if_neg (by decide), if_neg (by decide), if_neg (by decide), if_neg (by decide), if_pos rfl]; simp only [List.length_append, lineV_len]; omega⟩
 ·exact Or.inl hg
theorem sts_val : ∀ {l : Sts} {dep d : Nat}, GoodSs l dep -> ∀ s ∈ l.toList, s.val = .nil \/ (∃ d', GoodB s.val d') /\ (bareV s.val).length <= (stsV d l).length
 | .nil, _, _, _, s, hs => by cases hs
 | .cons y ys, dep, d, h, s, hs => by
  rw [GoodSs] at h
  rw [stsV, List.length_append]
  rcases List.mem_cons.1 hs with rfl | hs
  ·rcases val_good (d := d) h.1 with e | ⟨e1, e2⟩
   ·exact Or.inl e
   ·exact Or.inr ⟨e1, by omega⟩
  ·rcases sts_val (d := d) h.2 s hs with e | ⟨e1, e2⟩
   ·exact Or.inl e
   ·exact Or.inr ⟨e1, by omega⟩
theorem flat_mem {α : Type} (f : α -> Lx.B) {l : List α} {x : α} (h : x ∈ l) : (f x).length <= (l.flatMap f).length := by
 obtain ⟨a, c, rfl⟩ := List.append_of_mem h
 rw [List.flatMap_append, List.flatMap_cons, List.length_append, List.length_append]
 omega
theorem src_val {t : B} {ts : List Tok} {en m : Nat} {src : Src} (hts : lx t 0 false = (ts, none)) (hev : Ev (fun f => Tr.program ⟨ts, en⟩ f ⟨[], []⟩ 0) (.ok src m)) : ∀ g ∈ src.funcs, ∀ s ∈ g.body.toList, s.val = .nil \/ (∃ d', GoodB s.val d') /\ (bareV s.val).length <= 129 * t.length + 128 := by
 intro g hg s hs
 obtain ⟨_, h2⟩ := text_len hts hev
 obtain ⟨_, f0, hev0⟩ := hev
 have hgood : GoodSrc src := good_program (tok_ok hts) f0 ⟨[], []⟩ 0 src m (hev0 f0 (Nat.le_refl _)) ⟨fun g hg => (by cases hg), fun g hg => (by cases hg), Nat.zero_le _, Nat.zero_le _⟩
 rcases sts_val (d := 1) (hgood.fus g hg).body s hs with e | ⟨e1, e2⟩
 ·exact Or.inl e
 ·refine Or.inr ⟨e1, ?_⟩
  have h3 : (fuV g).length <= (printV src).length := by
   unfold printV
   rw [List.length_append]
   have := flat_mem fuV hg
   omega
  have h4 : (stsV 1 g.body).length <= (fuV g).length := by
   unfold fuV
   simp only [List.length_append]
   omega
  omega
end Tr
end Go.Proofs.YtjejcajnnbilmaaGreatDoor
namespace Go.Proofs.YtjejcajnnbilmaaGreatDoor
open Go.RowKit Lx Tr
variable {w w' : World}
theorem exsOk_mem : ∀ xs : Exs, ExsOk xs -> ∀ x ∈ xs.toList, ExOk x
 | .nil, _, x, hx => by cases hx
 | .cons y ys, h, x, hx => by
  rcases List.mem_cons.1 hx with e | e
  ·rw [e]; exact h.1
  ·exact exsOk_mem ys h.2 x e
def BrC (B : Nat) (x : Ex) : Prop := ∀ (w : World) (v : Value), B <= w.heap.size -> PEnv B w -> ExIn w (fun k => k < B) v x -> ExOk x -> (brV x).length <= 1000000 -> Tells w 18 #[v] (brV x)
theorem brk_nil (w : World) : Tells w 18 #[.pointer none] [] := by
 unfold Tells
 go_enter Tryz.func18, Tryz.ntmps18
 go_wp2_with fail
 try simp only [Exit.inBlock, Exit.then]
 go_ret
 exact ⟨rfl, Below.refl _ _⟩
theorem brk_recv {B bk : Nat} {x : Ex} {q : Option Addr} (w : World) (hB : B <= w.heap.size) (hP : PEnv B w) (c0 : w.cell? ⟨bk, 0, none⟩ = some (.int .i64 10)) (c5 : w.cell? ⟨bk, 5, none⟩ = some (.pointer q))
  (hx : ExIn w (fun k => k < B) (.pointer q) x) (hok : ExOk x) (hE : BrC B x) (hlen : (tArrow ++ ([40] ++ (brV x ++ [41]))).length <= 1000000) :
  Tells w 18 #[.pointer (some ⟨bk, 0, none⟩)] (tArrow ++ ([40] ++ (brV x ++ [41]))) := by
 have hq : tArrow ++ ([40] ++ (brV x ++ [41])) = [60, 45, 40] ++ brV x ++ [41] := by
  simp only [tArrow, List.cons_append, List.nil_append]
 rw [hq] at hlen ⊢
 simp only [List.length_append, List.length_cons, List.length_nil] at hlen
 have hl : 3 + (brV x).length + 1 <= 1000000 := by omega
 have hs1 : ¬ 9223372036854775807 < 3 + (mkT (brV x)).size := by rw [mkT_size]; omega
 have hs2 : ¬ 9223372036854775807 < 3 + (mkT (brV x)).size + 1 := by rw [mkT_size]; omega
 unfold Tells
 have HC := zz (hE w _ hB hP hx hok (by omega))
 unfold Tells at HC
 clear hB hP hx hlen hl hE hok hq
 go_enter Tryz.func18, Tryz.ntmps18
 go_wp2_with fail
 refine HC.out.mono ?_
 rintro e w2 ⟨rfl, hb2⟩
 have HB2 := zz hb2
 clear hb2
 go_wp2_with fail
 try simp only [Exit.inBlock, Exit.then]
 go_ret
 refine ⟨congrArg Ending.returned (congrArg Value.string ?_), HB2.out⟩
 rw [show (⟨#[60, 45, 40]⟩ : ByteArray) = mkT [60, 45, 40] from rfl, show (⟨#[41]⟩ : ByteArray) = mkT [41] from rfl, mkT_app, mkT_app]
 rfl
theorem brk_make {B bk : Nat} {x : Ex} {q : Option Addr} (w : World) (hB : B <= w.heap.size) (hP : PEnv B w) (c0 : w.cell? ⟨bk, 0, none⟩ = some (.int .i64 8)) (c5 : w.cell? ⟨bk, 5, none⟩ = some (.pointer q))
  (hx : ExIn w (fun k => k < B) (.pointer q) x) (hok : ExOk x) (hE : BrC B x) (hlen : (tMake ++ ([40] ++ (([40] ++ (brV x ++ [41])) ++ [41]))).length <= 1000000) :
  Tells w 18 #[.pointer (some ⟨bk, 0, none⟩)] (tMake ++ ([40] ++ (([40] ++ (brV x ++ [41])) ++ [41]))) := by
 have hq : tMake ++ ([40] ++ (([40] ++ (brV x ++ [41])) ++ [41])) = [109, 97, 107, 101, 40, 40] ++ brV x ++ [41, 41] := by
  simp only [tMake, List.append_assoc, List.cons_append, List.nil_append]
 rw [hq] at hlen ⊢
 simp only [List.length_append, List.length_cons, List.length_nil] at hlen
 have hl : 6 + (brV x).length + 2 <= 1000000 := by omega
 have hs1 : ¬ 9223372036854775807 < 6 + (mkT (brV x)).size := by rw [mkT_size]; omega
 have hs2 : ¬ 9223372036854775807 < 6 + (mkT (brV x)).size + 2 := by rw [mkT_size]; omega
 unfold Tells
 have HC := zz (hE w _ hB hP hx hok (by omega))
 unfold Tells at HC
 clear hB hP hx hlen hl hE hok hq
 go_enter Tryz.func18, Tryz.ntmps18
 go_wp2_with fail
 refine HC.out.mono ?_
 rintro e w2 ⟨rfl, hb2⟩
 have HB2 := zz hb2
 clear hb2
 go_wp2_with fail
 try simp only [Exit.inBlock, Exit.then]
 go_ret
 refine ⟨congrArg Ending.returned (congrArg Value.string ?_), HB2.out⟩
 rw [show (⟨#[109, 97, 107, 101, 40, 40]⟩ : ByteArray) = mkT [109, 97, 107, 101, 40, 40] from rfl, show (⟨#[41, 41]⟩ : ByteArray) = mkT [41, 41] from rfl, mkT_app, mkT_app]
 rfl
theorem brk_len {B bk : Nat} {x : Ex} {q : Option Addr} (w : World) (hB : B <= w.heap.size) (hP : PEnv B w) (c0 : w.cell? ⟨bk, 0, none⟩ = some (.int .i64 9)) (c5 : w.cell? ⟨bk, 5, none⟩ = some (.pointer q))
  (hx : ExIn w (fun k => k < B) (.pointer q) x) (hok : ExOk x) (hE : BrC B x) (hlen : (tLen ++ ([40] ++ (([40] ++ (brV x ++ [41])) ++ [41]))).length <= 1000000) :
  Tells w 18 #[.pointer (some ⟨bk, 0, none⟩)] (tLen ++ ([40] ++ (([40] ++ (brV x ++ [41])) ++ [41]))) := by
 have hq : tLen ++ ([40] ++ (([40] ++ (brV x ++ [41])) ++ [41])) = [108, 101, 110, 40, 40] ++ brV x ++ [41, 41] := by
  simp only [tLen, List.append_assoc, List.cons_append, List.nil_append]
 rw [hq] at hlen ⊢
 simp only [List.length_append, List.length_cons, List.length_nil] at hlen
 have hl : 5 + (brV x).length + 2 <= 1000000 := by omega
 have hs1 : ¬ 9223372036854775807 < 5 + (mkT (brV x)).size := by rw [mkT_size]; omega
 have hs2 : ¬ 9223372036854775807 < 5 + (mkT (brV x)).size + 2 := by rw [mkT_size]; omega
 unfold Tells
 have HC := zz (hE w _ hB hP hx hok (by omega))
 unfold Tells at HC
 clear hB hP hx hlen hl hE hok hq
 go_enter Tryz.func18, Tryz.ntmps18
 go_wp2_with fail
 refine HC.out.mono ?_
 rintro e w2 ⟨rfl, hb2⟩
 have HB2 := zz hb2
 clear hb2
 go_wp2_with fail
 try simp only [Exit.inBlock, Exit.then]
 go_ret
 refine ⟨congrArg Ending.returned (congrArg Value.string ?_), HB2.out⟩
 rw [show (⟨#[108, 101, 110, 40, 40]⟩ : ByteArray) = mkT [108, 101, 110, 40, 40] from rfl, show (⟨#[41, 41]⟩ : ByteArray) = mkT [41, 41] from rfl, mkT_app, mkT_app]
 rfl
theorem brk_leaf {B bk : Nat} {code a n op : Nat} {nm : Lx.B} {lx rx : Ex} {zs : Exs} (w : World) (hB : B <= w.heap.size) (hP : PEnv B w) (hc : code ≠ 5 /\ code ≠ 6 /\ code ≠ 7 /\ code ≠ 8 /\ code ≠ 9 /\ code ≠ 10) (c0 : w.cell? ⟨bk, 0, none⟩ = some (.int .i64 (code : Nat)))
  (hx : ExIn w (fun k => k < B) (.pointer (some ⟨bk, 0, none⟩)) (.mk code a n op nm lx rx zs)) (hok : ExOk (.mk code a n op nm lx rx zs)) (hlen : ([40] ++ (bareV (.mk code a n op nm lx rx zs) ++ [41])).length <= 1000000) :
  Tells w 18 #[.pointer (some ⟨bk, 0, none⟩)] ([40] ++ (bareV (.mk code a n op nm lx rx zs) ++ [41])) := by
 have he : exV 1 (.mk code a n op nm lx rx zs) = bareV (.mk code a n op nm lx rx zs) := by
  unfold exV exW
  exact if_neg (fun e => hc.1 e.1)
 simp only [List.length_append, List.length_cons, List.length_nil] at hlen
 have HC := zz (text_ex (.mk code a n op nm lx rx zs) hok w _ hB hP hx (by rw [he]; omega))
 rw [he] at HC
 unfold Tells at HC ⊢
 generalize bareV (.mk code a n op nm lx rx zs) = t at *
 have hs1 : ¬ 9223372036854775807 < 1 + (mkT t).size := by rw [mkT_size]; omega
 have hs2 : ¬ 9223372036854775807 < 1 + (mkT t).size + 1 := by rw [mkT_size]; omega
 have e5 : ((code : Int) == 5) = false := beq_eq_false_iff_ne.2 (by omega)
 have e6 : ((code : Int) == 6) = false := beq_eq_false_iff_ne.2 (by omega)
 have e7 : ((code : Int) == 7) = false := beq_eq_false_iff_ne.2 (by omega)
 have e8 : ((code : Int) == 8) = false := beq_eq_false_iff_ne.2 (by omega)
 have e9 : ((code : Int) == 9) = false := beq_eq_false_iff_ne.2 (by omega)
 have e10 : ((code : Int) == 10) = false := beq_eq_false_iff_ne.2 (by omega)
 clear hB hP hx hlen hok he hc
 go_enter Tryz.func18, Tryz.ntmps18
 go_wp2_with fail
 refine HC.out.mono ?_
 rintro e w2 ⟨rfl, hb2⟩
 have HB2 := zz hb2
 clear hb2
 go_wp2_with fail
 try simp only [Exit.inBlock, Exit.then]
 go_ret
 refine ⟨congrArg Ending.returned (congrArg Value.string ?_), HB2.out⟩
 rw [show (⟨#[40]⟩ : ByteArray) = mkT [40] from rfl, show (⟨#[41]⟩ : ByteArray) = mkT [41] from rfl, mkT_app, mkT_app, List.append_assoc]
 rfl
theorem brk_un {B bk op : Nat} {x : Ex} {q : Option Addr} (w : World) (hB : B <= w.heap.size) (hP : PEnv B w) (hbk : bk < B) (c0 : w.cell? ⟨bk, 0, none⟩ = some (.int .i64 6)) (c4 : w.cell? ⟨bk, 4, none⟩ = some (.int .i64 (op : Nat))) (c5 : w.cell? ⟨bk, 5, none⟩ = some (.pointer q))
  (hx : ExIn w (fun k => k < B) (.pointer q) x) (hok : ExOk x) (hE : BrC B x) (hlen : (signL op ++ ([40] ++ (brV x ++ [41]))).length <= 1000000) :
  Tells w 18 #[.pointer (some ⟨bk, 0, none⟩)] (signL op ++ ([40] ++ (brV x ++ [41]))) := by
 simp only [List.length_append, List.length_cons, List.length_nil] at hlen
 obtain ⟨S, hS⟩ : ∃ S : ByteArray, S = ⟨(signV (op : Int)).toArray⟩ := ⟨_, rfl⟩
 have hz : S.size = (signL op).length := by rw [hS, signV_nat]; exact mkT_size _
 have hs1 : ¬ 9223372036854775807 < S.size + 1 := by rw [hz]; omega
 have hs2 : ¬ 9223372036854775807 < S.size + 1 + (mkT (brV x)).size := by rw [hz, mkT_size]; omega
 have hs3 : ¬ 9223372036854775807 < S.size + 1 + (mkT (brV x)).size + 1 := by rw [hz, mkT_size]; omega
 have hbd : Below w.heap.size w w.drew := Below.drew (Below.refl _ w)
 have HK : Hid (∀ W', Below w.heap.size w W' -> W'.cell? ⟨bk, 4, none⟩ = some (.int .i64 (op : Nat)) /\ W'.cell? ⟨bk, 5, none⟩ = some (.pointer q)) := zz fun W' hb => ⟨by rw [hb.cell (p := ⟨bk, 4, none⟩) (Nat.lt_of_lt_of_le hbk hB)]; exact c4, by rw [hb.cell (p := ⟨bk, 5, none⟩) (Nat.lt_of_lt_of_le hbk hB)]; exact c5⟩
 have hsg := hP.signs
 have HSG : Hid (∀ z : Nat, Calls Tryz.prog 40 #[.int .i64 (op : Nat)] w.drew fun e w' => e = .returned (.string S) /\ w.drew = w') := zz fun _ => hS ▸ sign_any (op : Int) w.drew (hP.below (hbd.mono hB)).signs
 have HC := zz (hE w.drew _ hB (hP.below (hbd.mono hB)) (hx.below (hbd.mono hB)) hok (by omega))
 unfold Tells at HC ⊢
 have HBD := zz hbd
 have HZ : Hid (S = mkT (signL op)) := zz (by rw [hS, signV_nat]; rfl)
 clear hB hP hx hlen hE hok hbd hsg hz hbk hS
 go_enter Tryz.func18, Tryz.ntmps18
 go_wp2_with fail
 refine wp_region_held_drew (S := (fun W' : World => W'.cell? ⟨bk, 4, none⟩ = some (.int .i64 (op : Nat)) /\ W'.cell? ⟨bk, 5, none⟩ = some (.pointer q))) (by kernel_rfl) ⟨by simp only [World.cell?_drew]; assumption, by simp only [World.cell?_drew]; assumption⟩ (fun hHeld => ?_)
 refine tk 0 45 (.pointer (some ⟨bk, 0, none⟩)) rfl (.inl ⟨by rfl, ?_⟩) hHeld ?_
 ·intro W9 hSW; (try dsimp only at hSW); go_simp
 try simp only [Act.put, List.setIfInBounds_toArray, List.set_cons_zero, List.set_cons_succ]
 refine tk 1 46 (.pointer (some ⟨bk, 0, none⟩)) rfl (.inl ⟨by rfl, ?_⟩) hHeld ?_
 ·intro W9 hSW; (try dsimp only at hSW); go_simp
 try simp only [Act.put, List.setIfInBounds_toArray, List.set_cons_zero, List.set_cons_succ]
 refine tk 2 47 (.pointer (some ⟨bk, 4, none⟩)) rfl (.inl ⟨by rfl, ?_⟩) hHeld ?_
 ·intro W9 hSW; (try dsimp only at hSW); go_simp
 try simp only [Act.put, List.setIfInBounds_toArray, List.set_cons_zero, List.set_cons_succ]
 refine tk 3 48 (.int .i64 (op : Nat)) rfl (.inl ⟨by rfl, ?_⟩) hHeld ?_
 ·intro W9 hSW; (try dsimp only at hSW); go_simp
 try simp only [Act.put, List.setIfInBounds_toArray, List.set_cons_zero, List.set_cons_succ]
 refine tk 6 51 (.pointer (some ⟨bk, 0, none⟩)) rfl (.inl ⟨by rfl, ?_⟩) hHeld ?_
 ·intro W9 hSW; (try dsimp only at hSW); go_simp
 try simp only [Act.put, List.setIfInBounds_toArray, List.set_cons_zero, List.set_cons_succ]
 refine tk 7 52 (.pointer (some ⟨bk, 0, none⟩)) rfl (.inl ⟨by rfl, ?_⟩) hHeld ?_
 ·intro W9 hSW; (try dsimp only at hSW); go_simp
 try simp only [Act.put, List.setIfInBounds_toArray, List.set_cons_zero, List.set_cons_succ]
 refine tk 8 53 (.pointer (some ⟨bk, 5, none⟩)) rfl (.inl ⟨by rfl, ?_⟩) hHeld ?_
 ·intro W9 hSW; (try dsimp only at hSW); go_simp
 try simp only [Act.put, List.setIfInBounds_toArray, List.set_cons_zero, List.set_cons_succ]
 refine tk 9 54 (.pointer q) rfl (.inl ⟨by rfl, ?_⟩) hHeld ?_
 ·intro W9 hSW; (try dsimp only at hSW); go_simp
 try simp only [Act.put, List.setIfInBounds_toArray, List.set_cons_zero, List.set_cons_succ]
 refine wpAnyH_ready (rs := [4]) (by kernel_rfl) (by simp) ?_
 refine AllReadyH.cons (o := { dst := some 49, op := _, type := _, pos := _, after := _, guard := _ }) rfl (fun K hK => ?_) AllReadyH.nil
 go_simp
 go_at_call 40
 refine (HSG.out 0).mono ?_
 rintro e w1 ⟨rfl, rfl⟩
 refine hK.out _ _ hHeld (fun hHeld => ?_)
 clear hK K
 refine tk 5 50 (.string (S ++ ⟨#[40]⟩)) rfl (.inl ⟨by rfl, ?_⟩) hHeld ?_
 ·intro W9 hSW; (try dsimp only at hSW); go_simp
 try simp only [Act.put, List.setIfInBounds_toArray, List.set_cons_zero, List.set_cons_succ]
 refine wpAnyH_ready (rs := [10]) (by kernel_rfl) (by simp) ?_
 refine AllReadyH.cons (o := { dst := some 55, op := _, type := _, pos := _, after := _, guard := _ }) rfl (fun K hK => ?_) AllReadyH.nil
 go_simp
 go_at_call 18
 refine HC.out.mono ?_
 rintro e w2 ⟨rfl, hb2⟩
 have HB2 := zz (HBD.out.trans (hb2.mono HBD.out.size))
 have d4 := (HK.out w2 HB2.out).1
 have d5 := (HK.out w2 HB2.out).2
 clear hb2
 refine hK.out _ _ ⟨d4, d5⟩ (fun hHeld => ?_)
 clear hK K
 refine tk 11 56 (.string (S ++ ⟨#[40]⟩ ++ mkT (brV x))) rfl (.inl ⟨by rfl, ?_⟩) hHeld ?_
 ·intro W9 hSW; (try dsimp only at hSW); go_simp
 try simp only [Act.put, List.setIfInBounds_toArray, List.set_cons_zero, List.set_cons_succ]
 refine tk 12 57 (.string (S ++ ⟨#[40]⟩ ++ mkT (brV x) ++ ⟨#[41]⟩)) rfl (.inl ⟨by rfl, ?_⟩) hHeld ?_
 ·intro W9 hSW; (try dsimp only at hSW); go_simp
 try simp only [Act.put, List.setIfInBounds_toArray, List.set_cons_zero, List.set_cons_succ]
 refine tk 13 2 (.string (S ++ ⟨#[40]⟩ ++ mkT (brV x) ++ ⟨#[41]⟩)) rfl (.inl ⟨by rfl, ?_⟩) hHeld ?_
 ·intro W9 hSW; (try dsimp only at hSW); go_simp
 try simp only [Act.put, List.setIfInBounds_toArray, List.set_cons_zero, List.set_cons_succ]
 refine wpAnyH_done (by kernel_rfl) ?_ _
 go_wp2_with fail
 try simp only [Exit.inBlock, Exit.then]
 go_ret
 refine ⟨congrArg Ending.returned (congrArg Value.string ?_), HB2.out⟩
 rw [HZ.out]
 show mkT (signL op) ++ mkT [40] ++ mkT (brV x) ++ mkT [41] = _
 rw [mkT_app, mkT_app, mkT_app]
 simp only [List.append_assoc]
 rfl
theorem brk_binA {B bk op : Nat} {x y : Ex} {q p : Option Addr} (ho : op = 30) (w : World) (hB : B <= w.heap.size) (hP : PEnv B w) (hbk : bk < B) (c0 : w.cell? ⟨bk, 0, none⟩ = some (.int .i64 5)) (c4 : w.cell? ⟨bk, 4, none⟩ = some (.int .i64 (op : Nat))) (c5 : w.cell? ⟨bk, 5, none⟩ = some (.pointer q)) (c6 : w.cell? ⟨bk, 6, none⟩ = some (.pointer p))
  (hx : ExIn w (fun k => k < B) (.pointer q) x) (hy : ExIn w (fun k => k < B) (.pointer p) y) (hok : ExOk x) (hoky : ExOk y) (hE : BrC B x) (hF : BrC B y) (hlen : ([40] ++ (brV x ++ (sgV op ++ ([32] ++ (brV y ++ [41]))))).length <= 1000000) :
  Tells w 18 #[.pointer (some ⟨bk, 0, none⟩)] ([40] ++ (brV x ++ (sgV op ++ ([32] ++ (brV y ++ [41]))))) := by
 simp only [List.length_append, List.length_cons, List.length_nil] at hlen
 have hz : (⟨#[38, 38]⟩ : ByteArray).size = (sgV op).length := by subst ho; rfl
 have hs1 : ¬ 9223372036854775807 < 1 + (mkT (brV x)).size := by rw [mkT_size]; omega
 have hs2 : ¬ 9223372036854775807 < 1 + (mkT (brV x)).size + 2 := by rw [mkT_size]; omega
 have hs3 : ¬ 9223372036854775807 < 1 + (mkT (brV x)).size + 2 + 1 := by rw [mkT_size]; omega
 have hs4 : ¬ 9223372036854775807 < 1 + (mkT (brV x)).size + 2 + 1 + (mkT (brV y)).size := by rw [mkT_size, mkT_size]; omega
 have hs5 : ¬ 9223372036854775807 < 1 + (mkT (brV x)).size + 2 + 1 + (mkT (brV y)).size + 1 := by rw [mkT_size, mkT_size]; omega
 have hbd : Below w.heap.size w w.drew := Below.drew (Below.refl _ w)
 have HK : Hid (∀ W', Below w.heap.size w W' -> W'.cell? ⟨bk, 5, none⟩ = some (.pointer q) /\ W'.cell? ⟨bk, 6, none⟩ = some (.pointer p)) := zz fun W' hb => ⟨by rw [hb.cell (p := ⟨bk, 5, none⟩) (Nat.lt_of_lt_of_le hbk hB)]; exact c5, by rw [hb.cell (p := ⟨bk, 6, none⟩) (Nat.lt_of_lt_of_le hbk hB)]; exact c6⟩
 have HSG := zz (sign_any (op : Int) w hP.signs)
 have HC := zz (hE w.drew _ hB (hP.below (hbd.mono hB)) (hx.below (hbd.mono hB)) hok (by omega))
 have HF : Hid (∀ W, Below w.heap.size w W -> Tells W 18 #[.pointer p] (brV y)) := zz fun W hb => hF W _ (Nat.le_trans hB hb.size) (hP.below (hb.mono hB)) (hy.below (hb.mono hB)) hoky (by omega)
 unfold Tells at HC ⊢
 have HBD := zz hbd
 have HZ : Hid (⟨#[38, 38]⟩ = mkT (sgV op)) := zz (by subst ho; rfl)
 subst ho
 clear hB hP hx hy hlen hE hF hok hoky hbd hz hbk
 go_enter Tryz.func18, Tryz.ntmps18
 go_wp2_with fail
 refine HSG.out.mono ?_
 rintro e w1 ⟨rfl, rfl⟩
 go_wp2_with fail
 refine wp_region_held_drew (S := (fun W' : World => W'.cell? ⟨bk, 5, none⟩ = some (.pointer q) /\ W'.cell? ⟨bk, 6, none⟩ = some (.pointer p))) (by kernel_rfl) ⟨by simp only [World.cell?_drew]; assumption, by simp only [World.cell?_drew]; assumption⟩ (fun hHeld => ?_)
 refine tk 0 27 (.pointer (some ⟨bk, 0, none⟩)) rfl (.inl ⟨by rfl, ?_⟩) hHeld ?_
 ·intro W9 hSW; (try dsimp only at hSW); go_simp
 try simp only [Act.put, List.setIfInBounds_toArray, List.set_cons_zero, List.set_cons_succ]
 refine tk 1 28 (.pointer (some ⟨bk, 0, none⟩)) rfl (.inl ⟨by rfl, ?_⟩) hHeld ?_
 ·intro W9 hSW; (try dsimp only at hSW); go_simp
 try simp only [Act.put, List.setIfInBounds_toArray, List.set_cons_zero, List.set_cons_succ]
 refine tk 2 29 (.pointer (some ⟨bk, 5, none⟩)) rfl (.inl ⟨by rfl, ?_⟩) hHeld ?_
 ·intro W9 hSW; (try dsimp only at hSW); go_simp
 try simp only [Act.put, List.setIfInBounds_toArray, List.set_cons_zero, List.set_cons_succ]
 refine tk 3 30 (.pointer q) rfl (.inl ⟨by rfl, ?_⟩) hHeld ?_
 ·intro W9 hSW; (try dsimp only at hSW); go_simp
 try simp only [Act.put, List.setIfInBounds_toArray, List.set_cons_zero, List.set_cons_succ]
 refine tk 6 33 (.string ⟨#[38, 38]⟩) rfl (.inl ⟨by rfl, ?_⟩) hHeld ?_
 ·intro W9 hSW; (try dsimp only at hSW); go_simp
 try simp only [Act.put, List.setIfInBounds_toArray, List.set_cons_zero, List.set_cons_succ]
 refine tk 9 36 (.pointer (some ⟨bk, 0, none⟩)) rfl (.inl ⟨by rfl, ?_⟩) hHeld ?_
 ·intro W9 hSW; (try dsimp only at hSW); go_simp
 try simp only [Act.put, List.setIfInBounds_toArray, List.set_cons_zero, List.set_cons_succ]
 refine tk 10 37 (.pointer (some ⟨bk, 0, none⟩)) rfl (.inl ⟨by rfl, ?_⟩) hHeld ?_
 ·intro W9 hSW; (try dsimp only at hSW); go_simp
 try simp only [Act.put, List.setIfInBounds_toArray, List.set_cons_zero, List.set_cons_succ]
 refine tk 11 38 (.pointer (some ⟨bk, 6, none⟩)) rfl (.inl ⟨by rfl, ?_⟩) hHeld ?_
 ·intro W9 hSW; (try dsimp only at hSW); go_simp
 try simp only [Act.put, List.setIfInBounds_toArray, List.set_cons_zero, List.set_cons_succ]
 refine tk 12 39 (.pointer p) rfl (.inl ⟨by rfl, ?_⟩) hHeld ?_
 ·intro W9 hSW; (try dsimp only at hSW); go_simp
 try simp only [Act.put, List.setIfInBounds_toArray, List.set_cons_zero, List.set_cons_succ]
 refine wpAnyH_ready (rs := [4]) (by kernel_rfl) (by simp) ?_
 refine AllReadyH.cons (o := { dst := some 31, op := _, type := _, pos := _, after := _, guard := _ }) rfl (fun K hK => ?_) AllReadyH.nil
 go_simp
 go_at_call 18
 refine HC.out.mono ?_
 rintro e w2 ⟨rfl, hb2⟩
 have HB2 := zz (HBD.out.trans (hb2.mono HBD.out.size))
 have d5 := (HK.out w2 HB2.out).1
 have d6 := (HK.out w2 HB2.out).2
 have HF2 := zz (HF.out w2 HB2.out)
 unfold Tells at HF2
 clear hb2
 refine hK.out _ _ ⟨d5, d6⟩ (fun hHeld => ?_)
 clear hK K
 refine tk 5 32 (.string (⟨#[40]⟩ ++ mkT (brV x))) rfl (.inl ⟨by rfl, ?_⟩) hHeld ?_
 ·intro W9 hSW; (try dsimp only at hSW); go_simp
 try simp only [Act.put, List.setIfInBounds_toArray, List.set_cons_zero, List.set_cons_succ]
 refine tk 7 34 (.string (⟨#[40]⟩ ++ mkT (brV x) ++ ⟨#[38, 38]⟩)) rfl (.inl ⟨by rfl, ?_⟩) hHeld ?_
 ·intro W9 hSW; (try dsimp only at hSW); go_simp
 try simp only [Act.put, List.setIfInBounds_toArray, List.set_cons_zero, List.set_cons_succ]
 refine tk 8 35 (.string (⟨#[40]⟩ ++ mkT (brV x) ++ ⟨#[38, 38]⟩ ++ ⟨#[32]⟩)) rfl (.inl ⟨by rfl, ?_⟩) hHeld ?_
 ·intro W9 hSW; (try dsimp only at hSW); go_simp
 try simp only [Act.put, List.setIfInBounds_toArray, List.set_cons_zero, List.set_cons_succ]
 refine wpAnyH_ready (rs := [13]) (by kernel_rfl) (by simp) ?_
 refine AllReadyH.cons (o := { dst := some 40, op := _, type := _, pos := _, after := _, guard := _ }) rfl (fun K hK => ?_) AllReadyH.nil
 go_simp
 go_at_call 18
 refine HF2.out.mono ?_
 rintro e w4 ⟨rfl, hb4⟩
 have HB4 := zz (HB2.out.trans (hb4.mono HB2.out.size))
 have f5 := (HK.out w4 HB4.out).1
 have f6 := (HK.out w4 HB4.out).2
 clear hb4
 refine hK.out _ _ ⟨f5, f6⟩ (fun hHeld => ?_)
 clear hK K
 refine tk 14 41 (.string (⟨#[40]⟩ ++ mkT (brV x) ++ ⟨#[38, 38]⟩ ++ ⟨#[32]⟩ ++ mkT (brV y))) rfl (.inl ⟨by rfl, ?_⟩) hHeld ?_
 ·intro W9 hSW; (try dsimp only at hSW); go_simp
 try simp only [Act.put, List.setIfInBounds_toArray, List.set_cons_zero, List.set_cons_succ]
 refine tk 15 42 (.string (⟨#[40]⟩ ++ mkT (brV x) ++ ⟨#[38, 38]⟩ ++ ⟨#[32]⟩ ++ mkT (brV y) ++ ⟨#[41]⟩)) rfl (.inl ⟨by rfl, ?_⟩) hHeld ?_
 ·intro W9 hSW; (try dsimp only at hSW); go_simp
 try simp only [Act.put, List.setIfInBounds_toArray, List.set_cons_zero, List.set_cons_succ]
 refine tk 16 2 (.string (⟨#[40]⟩ ++ mkT (brV x) ++ ⟨#[38, 38]⟩ ++ ⟨#[32]⟩ ++ mkT (brV y) ++ ⟨#[41]⟩)) rfl (.inl ⟨by rfl, ?_⟩) hHeld ?_
 ·intro W9 hSW; (try dsimp only at hSW); go_simp
 try simp only [Act.put, List.setIfInBounds_toArray, List.set_cons_zero, List.set_cons_succ]
 refine wpAnyH_done (by kernel_rfl) ?_ _
 go_wp2_with fail
 try simp only [Exit.inBlock, Exit.then]
 go_ret
 refine ⟨congrArg Ending.returned (congrArg Value.string ?_), HB4.out⟩
 rw [HZ.out]
 show mkT [40] ++ mkT (brV x) ++ mkT (sgV 30) ++ mkT [32] ++ mkT (brV y) ++ mkT [41] = _
 rw [mkT_app, mkT_app, mkT_app, mkT_app, mkT_app]
 simp only [List.append_assoc]
 rfl
theorem brk_binO {B bk op : Nat} {x y : Ex} {q p : Option Addr} (ho : op = 31) (w : World) (hB : B <= w.heap.size) (hP : PEnv B w) (hbk : bk < B) (c0 : w.cell? ⟨bk, 0, none⟩ = some (.int .i64 5)) (c4 : w.cell? ⟨bk, 4, none⟩ = some (.int .i64 (op : Nat))) (c5 : w.cell? ⟨bk, 5, none⟩ = some (.pointer q)) (c6 : w.cell? ⟨bk, 6, none⟩ = some (.pointer p))
  (hx : ExIn w (fun k => k < B) (.pointer q) x) (hy : ExIn w (fun k => k < B) (.pointer p) y) (hok : ExOk x) (hoky : ExOk y) (hE : BrC B x) (hF : BrC B y) (hlen : ([40] ++ (brV x ++ (sgV op ++ ([32] ++ (brV y ++ [41]))))).length <= 1000000) :
  Tells w 18 #[.pointer (some ⟨bk, 0, none⟩)] ([40] ++ (brV x ++ (sgV op ++ ([32] ++ (brV y ++ [41]))))) := by
 simp only [List.length_append, List.length_cons, List.length_nil] at hlen
 have hz : (⟨#[124, 124]⟩ : ByteArray).size = (sgV op).length := by subst ho; rfl
 have hs1 : ¬ 9223372036854775807 < 1 + (mkT (brV x)).size := by rw [mkT_size]; omega
 have hs2 : ¬ 9223372036854775807 < 1 + (mkT (brV x)).size + 2 := by rw [mkT_size]; omega
 have hs3 : ¬ 9223372036854775807 < 1 + (mkT (brV x)).size + 2 + 1 := by rw [mkT_size]; omega
 have hs4 : ¬ 9223372036854775807 < 1 + (mkT (brV x)).size + 2 + 1 + (mkT (brV y)).size := by rw [mkT_size, mkT_size]; omega
 have hs5 : ¬ 9223372036854775807 < 1 + (mkT (brV x)).size + 2 + 1 + (mkT (brV y)).size + 1 := by rw [mkT_size, mkT_size]; omega
 have hbd : Below w.heap.size w w.drew := Below.drew (Below.refl _ w)
 have HK : Hid (∀ W', Below w.heap.size w W' -> W'.cell? ⟨bk, 5, none⟩ = some (.pointer q) /\ W'.cell? ⟨bk, 6, none⟩ = some (.pointer p)) := zz fun W' hb => ⟨by rw [hb.cell (p := ⟨bk, 5, none⟩) (Nat.lt_of_lt_of_le hbk hB)]; exact c5, by rw [hb.cell (p := ⟨bk, 6, none⟩) (Nat.lt_of_lt_of_le hbk hB)]; exact c6⟩
 have HSG := zz (sign_any (op : Int) w hP.signs)
 have HC := zz (hE w.drew _ hB (hP.below (hbd.mono hB)) (hx.below (hbd.mono hB)) hok (by omega))
 have HF : Hid (∀ W, Below w.heap.size w W -> Tells W 18 #[.pointer p] (brV y)) := zz fun W hb => hF W _ (Nat.le_trans hB hb.size) (hP.below (hb.mono hB)) (hy.below (hb.mono hB)) hoky (by omega)
 unfold Tells at HC ⊢
 have HBD := zz hbd
 have HZ : Hid (⟨#[124, 124]⟩ = mkT (sgV op)) := zz (by subst ho; rfl)
 subst ho
 clear hB hP hx hy hlen hE hF hok hoky hbd hz hbk
 go_enter Tryz.func18, Tryz.ntmps18
 go_wp2_with fail
 refine HSG.out.mono ?_
 rintro e w1 ⟨rfl, rfl⟩
 go_wp2_with fail
 refine wp_region_held_drew (S := (fun W' : World => W'.cell? ⟨bk, 5, none⟩ = some (.pointer q) /\ W'.cell? ⟨bk, 6, none⟩ = some (.pointer p))) (by kernel_rfl) ⟨by simp only [World.cell?_drew]; assumption, by simp only [World.cell?_drew]; assumption⟩ (fun hHeld => ?_)
 refine tk 0 27 (.pointer (some ⟨bk, 0, none⟩)) rfl (.inl ⟨by rfl, ?_⟩) hHeld ?_
 ·intro W9 hSW; (try dsimp only at hSW); go_simp
 try simp only [Act.put, List.setIfInBounds_toArray, List.set_cons_zero, List.set_cons_succ]
 refine tk 1 28 (.pointer (some ⟨bk, 0, none⟩)) rfl (.inl ⟨by rfl, ?_⟩) hHeld ?_
 ·intro W9 hSW; (try dsimp only at hSW); go_simp
 try simp only [Act.put, List.setIfInBounds_toArray, List.set_cons_zero, List.set_cons_succ]
 refine tk 2 29 (.pointer (some ⟨bk, 5, none⟩)) rfl (.inl ⟨by rfl, ?_⟩) hHeld ?_
 ·intro W9 hSW; (try dsimp only at hSW); go_simp
 try simp only [Act.put, List.setIfInBounds_toArray, List.set_cons_zero, List.set_cons_succ]
 refine tk 3 30 (.pointer q) rfl (.inl ⟨by rfl, ?_⟩) hHeld ?_
 ·intro W9 hSW; (try dsimp only at hSW); go_simp
 try simp only [Act.put, List.setIfInBounds_toArray, List.set_cons_zero, List.set_cons_succ]
 refine tk 6 33 (.string ⟨#[124, 124]⟩) rfl (.inl ⟨by rfl, ?_⟩) hHeld ?_
 ·intro W9 hSW; (try dsimp only at hSW); go_simp
 try simp only [Act.put, List.setIfInBounds_toArray, List.set_cons_zero, List.set_cons_succ]
 refine tk 9 36 (.pointer (some ⟨bk, 0, none⟩)) rfl (.inl ⟨by rfl, ?_⟩) hHeld ?_
 ·intro W9 hSW; (try dsimp only at hSW); go_simp
 try simp only [Act.put, List.setIfInBounds_toArray, List.set_cons_zero, List.set_cons_succ]
 refine tk 10 37 (.pointer (some ⟨bk, 0, none⟩)) rfl (.inl ⟨by rfl, ?_⟩) hHeld ?_
 ·intro W9 hSW; (try dsimp only at hSW); go_simp
 try simp only [Act.put, List.setIfInBounds_toArray, List.set_cons_zero, List.set_cons_succ]
 refine tk 11 38 (.pointer (some ⟨bk, 6, none⟩)) rfl (.inl ⟨by rfl, ?_⟩) hHeld ?_
 ·intro W9 hSW; (try dsimp only at hSW); go_simp
 try simp only [Act.put, List.setIfInBounds_toArray, List.set_cons_zero, List.set_cons_succ]
 refine tk 12 39 (.pointer p) rfl (.inl ⟨by rfl, ?_⟩) hHeld ?_
 ·intro W9 hSW; (try dsimp only at hSW); go_simp
 try simp only [Act.put, List.setIfInBounds_toArray, List.set_cons_zero, List.set_cons_succ]
 refine wpAnyH_ready (rs := [4]) (by kernel_rfl) (by simp) ?_
 refine AllReadyH.cons (o := { dst := some 31, op := _, type := _, pos := _, after := _, guard := _ }) rfl (fun K hK => ?_) AllReadyH.nil
 go_simp
 go_at_call 18
 refine HC.out.mono ?_
 rintro e w2 ⟨rfl, hb2⟩
 have HB2 := zz (HBD.out.trans (hb2.mono HBD.out.size))
 have d5 := (HK.out w2 HB2.out).1
 have d6 := (HK.out w2 HB2.out).2
 have HF2 := zz (HF.out w2 HB2.out)
 unfold Tells at HF2
 clear hb2
 refine hK.out _ _ ⟨d5, d6⟩ (fun hHeld => ?_)
 clear hK K
 refine tk 5 32 (.string (⟨#[40]⟩ ++ mkT (brV x))) rfl (.inl ⟨by rfl, ?_⟩) hHeld ?_
 ·intro W9 hSW; (try dsimp only at hSW); go_simp
 try simp only [Act.put, List.setIfInBounds_toArray, List.set_cons_zero, List.set_cons_succ]
 refine tk 7 34 (.string (⟨#[40]⟩ ++ mkT (brV x) ++ ⟨#[124, 124]⟩)) rfl (.inl ⟨by rfl, ?_⟩) hHeld ?_
 ·intro W9 hSW; (try dsimp only at hSW); go_simp
 try simp only [Act.put, List.setIfInBounds_toArray, List.set_cons_zero, List.set_cons_succ]
 refine tk 8 35 (.string (⟨#[40]⟩ ++ mkT (brV x) ++ ⟨#[124, 124]⟩ ++ ⟨#[32]⟩)) rfl (.inl ⟨by rfl, ?_⟩) hHeld ?_
 ·intro W9 hSW; (try dsimp only at hSW); go_simp
 try simp only [Act.put, List.setIfInBounds_toArray, List.set_cons_zero, List.set_cons_succ]
 refine wpAnyH_ready (rs := [13]) (by kernel_rfl) (by simp) ?_
 refine AllReadyH.cons (o := { dst := some 40, op := _, type := _, pos := _, after := _, guard := _ }) rfl (fun K hK => ?_) AllReadyH.nil
 go_simp
 go_at_call 18
 refine HF2.out.mono ?_
 rintro e w4 ⟨rfl, hb4⟩
 have HB4 := zz (HB2.out.trans (hb4.mono HB2.out.size))
 have f5 := (HK.out w4 HB4.out).1
 have f6 := (HK.out w4 HB4.out).2
 clear hb4
 refine hK.out _ _ ⟨f5, f6⟩ (fun hHeld => ?_)
 clear hK K
 refine tk 14 41 (.string (⟨#[40]⟩ ++ mkT (brV x) ++ ⟨#[124, 124]⟩ ++ ⟨#[32]⟩ ++ mkT (brV y))) rfl (.inl ⟨by rfl, ?_⟩) hHeld ?_
 ·intro W9 hSW; (try dsimp only at hSW); go_simp
 try simp only [Act.put, List.setIfInBounds_toArray, List.set_cons_zero, List.set_cons_succ]
 refine tk 15 42 (.string (⟨#[40]⟩ ++ mkT (brV x) ++ ⟨#[124, 124]⟩ ++ ⟨#[32]⟩ ++ mkT (brV y) ++ ⟨#[41]⟩)) rfl (.inl ⟨by rfl, ?_⟩) hHeld ?_
 ·intro W9 hSW; (try dsimp only at hSW); go_simp
 try simp only [Act.put, List.setIfInBounds_toArray, List.set_cons_zero, List.set_cons_succ]
 refine tk 16 2 (.string (⟨#[40]⟩ ++ mkT (brV x) ++ ⟨#[124, 124]⟩ ++ ⟨#[32]⟩ ++ mkT (brV y) ++ ⟨#[41]⟩)) rfl (.inl ⟨by rfl, ?_⟩) hHeld ?_
 ·intro W9 hSW; (try dsimp only at hSW); go_simp
 try simp only [Act.put, List.setIfInBounds_toArray, List.set_cons_zero, List.set_cons_succ]
 refine wpAnyH_done (by kernel_rfl) ?_ _
 go_wp2_with fail
 try simp only [Exit.inBlock, Exit.then]
 go_ret
 refine ⟨congrArg Ending.returned (congrArg Value.string ?_), HB4.out⟩
 rw [HZ.out]
 show mkT [40] ++ mkT (brV x) ++ mkT (sgV 31) ++ mkT [32] ++ mkT (brV y) ++ mkT [41] = _
 rw [mkT_app, mkT_app, mkT_app, mkT_app, mkT_app]
 simp only [List.append_assoc]
 rfl
theorem brk_binN {B bk op : Nat} {x y : Ex} {q p : Option Addr} (ho : op ≠ 30 /\ op ≠ 31) (w : World) (hB : B <= w.heap.size) (hP : PEnv B w) (hbk : bk < B) (c0 : w.cell? ⟨bk, 0, none⟩ = some (.int .i64 5)) (c4 : w.cell? ⟨bk, 4, none⟩ = some (.int .i64 (op : Nat))) (c5 : w.cell? ⟨bk, 5, none⟩ = some (.pointer q)) (c6 : w.cell? ⟨bk, 6, none⟩ = some (.pointer p))
  (hx : ExIn w (fun k => k < B) (.pointer q) x) (hy : ExIn w (fun k => k < B) (.pointer p) y) (hok : ExOk x) (hoky : ExOk y) (hE : BrC B x) (hF : BrC B y) (hlen : ([40] ++ (brV x ++ (sgV op ++ ([32] ++ (brV y ++ [41]))))).length <= 1000000) :
  Tells w 18 #[.pointer (some ⟨bk, 0, none⟩)] ([40] ++ (brV x ++ (sgV op ++ ([32] ++ (brV y ++ [41]))))) := by
 simp only [List.length_append, List.length_cons, List.length_nil] at hlen
 obtain ⟨S, hS⟩ : ∃ S : ByteArray, S = ⟨(signV (op : Int)).toArray⟩ := ⟨_, rfl⟩
 have hz : (S : ByteArray).size = (sgV op).length := by rw [hS, signV_nat]; unfold sgV; rw [if_neg ho.1, if_neg ho.2]; exact mkT_size _
 have hs1 : ¬ 9223372036854775807 < 1 + (mkT (brV x)).size := by rw [mkT_size]; omega
 have hs2 : ¬ 9223372036854775807 < 1 + (mkT (brV x)).size + S.size := by rw [hz]; rw [mkT_size]; omega
 have hs3 : ¬ 9223372036854775807 < 1 + (mkT (brV x)).size + S.size + 1 := by rw [hz]; rw [mkT_size]; omega
 have hs4 : ¬ 9223372036854775807 < 1 + (mkT (brV x)).size + S.size + 1 + (mkT (brV y)).size := by rw [hz]; rw [mkT_size, mkT_size]; omega
 have hs5 : ¬ 9223372036854775807 < 1 + (mkT (brV x)).size + S.size + 1 + (mkT (brV y)).size + 1 := by rw [hz]; rw [mkT_size, mkT_size]; omega
 have hbd : Below w.heap.size w w.drew := Below.drew (Below.refl _ w)
 have HK : Hid (∀ W', Below w.heap.size w W' -> W'.cell? ⟨bk, 5, none⟩ = some (.pointer q) /\ W'.cell? ⟨bk, 6, none⟩ = some (.pointer p)) := zz fun W' hb => ⟨by rw [hb.cell (p := ⟨bk, 5, none⟩) (Nat.lt_of_lt_of_le hbk hB)]; exact c5, by rw [hb.cell (p := ⟨bk, 6, none⟩) (Nat.lt_of_lt_of_le hbk hB)]; exact c6⟩
 have HSG : Hid (Calls Tryz.prog 40 #[.int .i64 (op : Nat)] w fun e w' => e = .returned (.string S) /\ w = w') := zz (hS ▸ sign_any (op : Int) w hP.signs)
 have HC := zz (hE w.drew _ hB (hP.below (hbd.mono hB)) (hx.below (hbd.mono hB)) hok (by omega))
 have HF : Hid (∀ W, Below w.heap.size w W -> Tells W 18 #[.pointer p] (brV y)) := zz fun W hb => hF W _ (Nat.le_trans hB hb.size) (hP.below (hb.mono hB)) (hy.below (hb.mono hB)) hoky (by omega)
 unfold Tells at HC ⊢
 have HBD := zz hbd
 have HZ : Hid (S = mkT (sgV op)) := zz (by rw [hS, signV_nat]; unfold sgV; rw [if_neg ho.1, if_neg ho.2]; rfl)
 have e1 : ((op : Int) == 30) = false := beq_eq_false_iff_ne.2 (by omega)
 have e2 : ((op : Int) == 31) = false := beq_eq_false_iff_ne.2 (by omega)
 clear ho
 clear hB hP hx hy hlen hE hF hok hoky hbd hz hbk hS
 go_enter Tryz.func18, Tryz.ntmps18
 go_wp2_with fail
 refine HSG.out.mono ?_
 rintro e w1 ⟨rfl, rfl⟩
 go_wp2_with fail
 refine wp_region_held_drew (S := (fun W' : World => W'.cell? ⟨bk, 5, none⟩ = some (.pointer q) /\ W'.cell? ⟨bk, 6, none⟩ = some (.pointer p))) (by kernel_rfl) ⟨by simp only [World.cell?_drew]; assumption, by simp only [World.cell?_drew]; assumption⟩ (fun hHeld => ?_)
 refine tk 0 27 (.pointer (some ⟨bk, 0, none⟩)) rfl (.inl ⟨by rfl, ?_⟩) hHeld ?_
 ·intro W9 hSW; (try dsimp only at hSW); go_simp
 try simp only [Act.put, List.setIfInBounds_toArray, List.set_cons_zero, List.set_cons_succ]
 refine tk 1 28 (.pointer (some ⟨bk, 0, none⟩)) rfl (.inl ⟨by rfl, ?_⟩) hHeld ?_
 ·intro W9 hSW; (try dsimp only at hSW); go_simp
 try simp only [Act.put, List.setIfInBounds_toArray, List.set_cons_zero, List.set_cons_succ]
 refine tk 2 29 (.pointer (some ⟨bk, 5, none⟩)) rfl (.inl ⟨by rfl, ?_⟩) hHeld ?_
 ·intro W9 hSW; (try dsimp only at hSW); go_simp
 try simp only [Act.put, List.setIfInBounds_toArray, List.set_cons_zero, List.set_cons_succ]
 refine tk 3 30 (.pointer q) rfl (.inl ⟨by rfl, ?_⟩) hHeld ?_
 ·intro W9 hSW; (try dsimp only at hSW); go_simp
 try simp only [Act.put, List.setIfInBounds_toArray, List.set_cons_zero, List.set_cons_succ]
 refine tk 6 33 (.string S) rfl (.inl ⟨by rfl, ?_⟩) hHeld ?_
 ·intro W9 hSW; (try dsimp only at hSW); go_simp
 try simp only [Act.put, List.setIfInBounds_toArray, List.set_cons_zero, List.set_cons_succ]
 refine tk 9 36 (.pointer (some ⟨bk, 0, none⟩)) rfl (.inl ⟨by rfl, ?_⟩) hHeld ?_
 ·intro W9 hSW; (try dsimp only at hSW); go_simp
 try simp only [Act.put, List.setIfInBounds_toArray, List.set_cons_zero, List.set_cons_succ]
 refine tk 10 37 (.pointer (some ⟨bk, 0, none⟩)) rfl (.inl ⟨by rfl, ?_⟩) hHeld ?_
 ·intro W9 hSW; (try dsimp only at hSW); go_simp
 try simp only [Act.put, List.setIfInBounds_toArray, List.set_cons_zero, List.set_cons_succ]
 refine tk 11 38 (.pointer (some ⟨bk, 6, none⟩)) rfl (.inl ⟨by rfl, ?_⟩) hHeld ?_
 ·intro W9 hSW; (try dsimp only at hSW); go_simp
 try simp only [Act.put, List.setIfInBounds_toArray, List.set_cons_zero, List.set_cons_succ]
 refine tk 12 39 (.pointer p) rfl (.inl ⟨by rfl, ?_⟩) hHeld ?_
 ·intro W9 hSW; (try dsimp only at hSW); go_simp
 try simp only [Act.put, List.setIfInBounds_toArray, List.set_cons_zero, List.set_cons_succ]
 refine wpAnyH_ready (rs := [4]) (by kernel_rfl) (by simp) ?_
 refine AllReadyH.cons (o := { dst := some 31, op := _, type := _, pos := _, after := _, guard := _ }) rfl (fun K hK => ?_) AllReadyH.nil
 go_simp
 go_at_call 18
 refine HC.out.mono ?_
 rintro e w2 ⟨rfl, hb2⟩
 have HB2 := zz (HBD.out.trans (hb2.mono HBD.out.size))
 have d5 := (HK.out w2 HB2.out).1
 have d6 := (HK.out w2 HB2.out).2
 have HF2 := zz (HF.out w2 HB2.out)
 unfold Tells at HF2
 clear hb2
 refine hK.out _ _ ⟨d5, d6⟩ (fun hHeld => ?_)
 clear hK K
 refine tk 5 32 (.string (⟨#[40]⟩ ++ mkT (brV x))) rfl (.inl ⟨by rfl, ?_⟩) hHeld ?_
 ·intro W9 hSW; (try dsimp only at hSW); go_simp
 try simp only [Act.put, List.setIfInBounds_toArray, List.set_cons_zero, List.set_cons_succ]
 refine tk 7 34 (.string (⟨#[40]⟩ ++ mkT (brV x) ++ S)) rfl (.inl ⟨by rfl, ?_⟩) hHeld ?_
 ·intro W9 hSW; (try dsimp only at hSW); go_simp
 try simp only [Act.put, List.setIfInBounds_toArray, List.set_cons_zero, List.set_cons_succ]
 refine tk 8 35 (.string (⟨#[40]⟩ ++ mkT (brV x) ++ S ++ ⟨#[32]⟩)) rfl (.inl ⟨by rfl, ?_⟩) hHeld ?_
 ·intro W9 hSW; (try dsimp only at hSW); go_simp
 try simp only [Act.put, List.setIfInBounds_toArray, List.set_cons_zero, List.set_cons_succ]
 refine wpAnyH_ready (rs := [13]) (by kernel_rfl) (by simp) ?_
 refine AllReadyH.cons (o := { dst := some 40, op := _, type := _, pos := _, after := _, guard := _ }) rfl (fun K hK => ?_) AllReadyH.nil
 go_simp
 go_at_call 18
 refine HF2.out.mono ?_
 rintro e w4 ⟨rfl, hb4⟩
 have HB4 := zz (HB2.out.trans (hb4.mono HB2.out.size))
 have f5 := (HK.out w4 HB4.out).1
 have f6 := (HK.out w4 HB4.out).2
 clear hb4
 refine hK.out _ _ ⟨f5, f6⟩ (fun hHeld => ?_)
 clear hK K
 refine tk 14 41 (.string (⟨#[40]⟩ ++ mkT (brV x) ++ S ++ ⟨#[32]⟩ ++ mkT (brV y))) rfl (.inl ⟨by rfl, ?_⟩) hHeld ?_
 ·intro W9 hSW; (try dsimp only at hSW); go_simp
 try simp only [Act.put, List.setIfInBounds_toArray, List.set_cons_zero, List.set_cons_succ]
 refine tk 15 42 (.string (⟨#[40]⟩ ++ mkT (brV x) ++ S ++ ⟨#[32]⟩ ++ mkT (brV y) ++ ⟨#[41]⟩)) rfl (.inl ⟨by rfl, ?_⟩) hHeld ?_
 ·intro W9 hSW; (try dsimp only at hSW); go_simp
 try simp only [Act.put, List.setIfInBounds_toArray, List.set_cons_zero, List.set_cons_succ]
 refine tk 16 2 (.string (⟨#[40]⟩ ++ mkT (brV x) ++ S ++ ⟨#[32]⟩ ++ mkT (brV y) ++ ⟨#[41]⟩)) rfl (.inl ⟨by rfl, ?_⟩) hHeld ?_
 ·intro W9 hSW; (try dsimp only at hSW); go_simp
 try simp only [Act.put, List.setIfInBounds_toArray, List.set_cons_zero, List.set_cons_succ]
 refine wpAnyH_done (by kernel_rfl) ?_ _
 go_wp2_with fail
 try simp only [Exit.inBlock, Exit.then]
 go_ret
 refine ⟨congrArg Ending.returned (congrArg Value.string ?_), HB4.out⟩
 rw [HZ.out]
 show mkT [40] ++ mkT (brV x) ++ mkT (sgV op) ++ mkT [32] ++ mkT (brV y) ++ mkT [41] = _
 rw [mkT_app, mkT_app, mkT_app, mkT_app, mkT_app]
 simp only [List.append_assoc]
 rfl
def brAL : Bool -> List Ex -> Lx.B
 | _, [] => []
 | f, x :: xs => (if f then [] else [44]) ++ (([40] ++ (brV x ++ [41])) ++ brAL false xs)
theorem brAV_list : ∀ (xs : Exs) (f : Bool), brAV f xs = brAL f xs.toList
 | .nil, f => by rw [brAV]; rfl
 | .cons x xs, f => by rw [brAV, brAV_list xs false]; rfl
theorem brAL_snoc : ∀ (l : List Ex) (f : Bool) (x : Ex), brAL f (l ++ [x]) = brAL f l ++ ((if f = true /\ l = [] then [] else [44]) ++ ([40] ++ (brV x ++ [41])))
 | [], f, x => by
  show (if f then [] else [44]) ++ (([40] ++ (brV x ++ [41])) ++ []) = [] ++ _
  cases f <;> simp
 | y :: l, f, x => by
  show (if f then [] else [44]) ++ (([40] ++ (brV y ++ [41])) ++ brAL false (l ++ [x])) = ((if f then [] else [44]) ++ (([40] ++ (brV y ++ [41])) ++ brAL false l)) ++ _
  rw [brAL_snoc l false x, if_neg (show ¬ (false = true /\ l = []) from fun e => by cases e.1), if_neg (show ¬ (f = true /\ y :: l = []) from fun e => by cases e.2)]
  simp only [List.append_assoc]
theorem brAL_le : ∀ (l : List Ex) (k : Nat) (f : Bool), (brAL f (l.take k)).length <= (brAL f l).length
 | [], k, f => by simp [brAL]
 | x :: xs, 0, f => Nat.zero_le _
 | x :: xs, k + 1, f => by
  show ((if f then [] else [44]) ++ (([40] ++ (brV x ++ [41])) ++ brAL false (xs.take k))).length <= ((if f then [] else [44]) ++ (([40] ++ (brV x ++ [41])) ++ brAL false xs)).length
  have := brAL_le xs k false
  simp only [List.length_append]
  omega
theorem brAL_two : ∀ (l : List Ex) (f : Bool), l.length <= (brAL f l).length
 | [], _ => Nat.zero_le _
 | x :: xs, f => by
  have := brAL_two xs false
  show xs.length + 1 <= ((if f then [] else [44]) ++ (([40] ++ (brV x ++ [41])) ++ brAL false xs)).length
  simp only [List.length_append, List.length_cons, List.length_nil]
  omega
def ArgsB (B : Nat) (w : World) (av : Value) (l : List Ex) : Prop :=
 (av = .slice none 0 0 /\ l = []) \/ ∃ g cap, av = .slice (some ⟨g, 0, none⟩) l.length cap /\ g < B /\ ∀ i x, l[i]? = some x -> ∃ v, w.cell? ⟨g, i, none⟩ = some v /\ ExIn w (fun k => k < B) v x
theorem argsB_of {B : Nat} {av : Value} {args : Exs} (ha : (av = .slice none 0 0 /\ args.len = 0) \/ ∃ g cap, av = .slice (some ⟨g, 0, none⟩) args.len cap /\ args.len <= cap /\ cap <= maxLen /\ 0 < args.len /\ g < B)
  (has : ∀ g n cap, av = .slice (some ⟨g, 0, none⟩) n cap -> ExsIn w (fun k => k < B) g 0 args) : ArgsB B w av args.toList := by
 rcases ha with ⟨e1, e2⟩ | ⟨g, cap, e1, _, _, _, hg⟩
 ·refine Or.inl ⟨e1, ?_⟩
  cases args with
  | nil => rfl
  | cons x xs => exact absurd e2 (by show xs.len + 1 ≠ 0; omega)
 ·refine Or.inr ⟨g, cap, by rw [e1, Exs.len_list], hg, fun i x hi => ?_⟩
  obtain ⟨v, a1, a2⟩ := exsIn_at args 0 (has g _ _ e1) i x hi
  rw [Nat.zero_add] at a1
  exact ⟨v, a1, a2⟩
def brS (name : Lx.B) (args : List Ex) (k : Nat) : ByteArray := mkT (name ++ ([40] ++ brAL true (args.take k)))
theorem brS_zero (name : Lx.B) (args : List Ex) : brS name args 0 = mkT name ++ ⟨#[40]⟩ := by
 unfold brS
 rw [show (⟨#[40]⟩ : ByteArray) = mkT [40] from rfl, mkT_app, List.take_zero]
 rfl
theorem brS_size (name : Lx.B) (args : List Ex) (k : Nat) : (brS name args k).size <= name.length + (1 + (brAL true args).length) := by
 unfold brS
 rw [mkT_size]
 have := brAL_le args k true
 simp only [List.length_append, List.length_cons, List.length_nil]
 omega
theorem brS_take {args : List Ex} {k : Nat} {x : Ex} (hkx : args[k]? = some x) : brAL true (args.take (k + 1)) = brAL true (args.take k) ++ ((if k = 0 then [] else [44]) ++ ([40] ++ (brV x ++ [41]))) := by
 have hlt := (List.getElem?_eq_some_iff.1 hkx).1
 have htk : args.take (k + 1) = args.take k ++ [x] := by rw [List.take_add_one, hkx]; rfl
 rw [htk, brAL_snoc]
 by_cases hk0 : k = 0
 ·rw [if_pos hk0, if_pos ⟨rfl, by rw [hk0, List.take_zero]⟩]
 ·rw [if_neg hk0, if_neg (fun e => hk0 (by have h7 := congrArg List.length e.2; rw [List.length_take] at h7; have h8 : min k args.length = 0 := h7; omega))]
theorem brS_first {name : Lx.B} {args : List Ex} {x : Ex} (hkx : args[0]? = some x) : brS name args 0 ++ (⟨#[40]⟩ ++ mkT (brV x) ++ ⟨#[41]⟩) = brS name args 1 := by
 unfold brS
 rw [show (1 : Nat) = 0 + 1 from rfl, brS_take hkx, if_pos rfl, show (⟨#[40]⟩ : ByteArray) = mkT [40] from rfl, show (⟨#[41]⟩ : ByteArray) = mkT [41] from rfl, mkT_app, mkT_app, mkT_app]
 simp only [List.append_assoc, List.nil_append]
theorem brS_next {name : Lx.B} {args : List Ex} {x : Ex} {k : Nat} (hk : k ≠ 0) (hkx : args[k]? = some x) : brS name args k ++ ⟨#[44]⟩ ++ (⟨#[40]⟩ ++ mkT (brV x) ++ ⟨#[41]⟩) = brS name args (k + 1) := by
 unfold brS
 rw [brS_take hkx, if_neg hk, show (⟨#[44]⟩ : ByteArray) = mkT [44] from rfl, show (⟨#[40]⟩ : ByteArray) = mkT [40] from rfl, show (⟨#[41]⟩ : ByteArray) = mkT [41] from rfl, mkT_app, mkT_app, mkT_app, mkT_app]
 simp only [List.append_assoc]
theorem brS_end (name : Lx.B) (args : List Ex) : brS name args args.length ++ ⟨#[41]⟩ = mkT (name ++ ([40] ++ (brAL true args ++ [41]))) := by
 unfold brS
 rw [show (⟨#[41]⟩ : ByteArray) = mkT [41] from rfl, mkT_app, List.take_length]
 simp only [List.append_assoc]
theorem brk_call {B bk : Nat} {name : Lx.B} {args : List Ex} {av : Value} (hA : ∀ x ∈ args, BrC B x) (hok : ∀ x ∈ args, ExOk x) (w : World) (hB : B <= w.heap.size) (hP : PEnv B w) (hbk : bk < B) (c0 : w.cell? ⟨bk, 0, none⟩ = some (.int .i64 7)) (c3 : w.cell? ⟨bk, 3, none⟩ = some (.string (mkT name))) (c7 : w.cell? ⟨bk, 7, none⟩ = some av)
  (hx : ArgsB B w av args) (hlen : (name ++ ([40] ++ (brAL true args ++ [41]))).length <= 1000000) :
  Tells w 18 #[.pointer (some ⟨bk, 0, none⟩)] (name ++ ([40] ++ (brAL true args ++ [41]))) := by
 obtain ⟨ao, cap, hav⟩ : ∃ ao cap, av = .slice ao args.length cap := by
  rcases hx with ⟨e1, e2⟩ | ⟨g, cap, e1, _⟩
  ·exact ⟨none, 0, by rw [e1, e2]; rfl⟩
  ·exact ⟨_, _, e1⟩
 subst hav
 have hn := brAL_two args true
 have hE0 := zz (brS_end name args)
 simp only [List.length_append, List.length_cons, List.length_nil] at hlen
 have hs0 : ¬ 9223372036854775807 < (mkT name).size + 1 := by rw [mkT_size]; omega
 have hbk2 : bk < w.heap.size := Nat.lt_of_lt_of_le hbk hB
 have HC : Hid (∀ W', Below w.heap.size w W' -> W'.cell? ⟨bk, 7, none⟩ = some (.slice ao args.length cap)) := zz fun W' hb => by rw [hb.cell (p := ⟨bk, 7, none⟩) hbk2]; exact c7
 have HA := zz hA
 have HO := zz hok
 have HB := zz hB
 have HP := zz hP
 have HX := zz hx
 have HLN : Hid (name.length + (1 + ((brAL true args).length + 1)) <= 1000000) := zz (by omega)
 have HN : Hid (args.length <= 1000000) := zz (by omega)
 unfold Tells
 rw [<- hE0.out]
 clear hA hok hB hP hbk hx hlen hn hbk2 c7 hE0
 go_enter Tryz.func18, Tryz.ntmps18
 go_wp2_with fail
 go_loopw [4, 5] (fun s i wr => ∃ k : Nat, k <= args.length /\ i = .int .i64 k /\ s = .string (brS name args k) /\ Below w.heap.size w wr) (fun _ i _ => args.length - (intOf i).toNat)
 case atStart => exact ⟨0, Nat.zero_le _, rfl, congrArg Value.string (brS_zero name args).symm, Below.refl _ _⟩
 case round =>
  obtain ⟨k, hk, rfl, rfl, hb⟩ := hrel
  have HBL := zz hb
  have c7 := HC.out wr hb
  have hn := HN.out
  have hz := brS_size name args k
  have hl := HLN.out
  clear hb
  by_cases hlt : k < args.length
  ·obtain ⟨x, hkx⟩ : ∃ x, args[k]? = some x := ⟨_, List.getElem?_eq_getElem hlt⟩
   obtain ⟨g, v, rfl, hcell, hxin⟩ : ∃ g v, ao = some ⟨g, 0, none⟩ /\ wr.cell? ⟨g, k, none⟩ = some v /\ ExIn w (fun k => k < B) v x := by
    rcases HX.out with ⟨_, e2⟩ | ⟨g, cap', e1, hg, hel⟩
    ·rw [e2] at hlt; exact absurd hlt (Nat.not_lt_zero _)
    ·injection e1 with e3 _ _
     obtain ⟨v, h1, h2⟩ := hel k x hkx
     exact ⟨g, v, e3, by rw [HBL.out.cell (p := ⟨g, k, none⟩) (Nat.lt_of_lt_of_le hg HB.out)]; exact h1, h2⟩
   have hki : (k : Int) < (args.length : Int) := by omega
   have hkii : (0 : Int) <= (k : Int) /\ (k : Int) < (args.length : Int) := by omega
   have hw : IntKind.i64.wrap ((k : Int) + 1) = (k : Int) + 1 := IntWalk.i64_in _ (by omega)
   have hle := brAL_le args (k + 1) true
   rw [brS_take hkx] at hle
   simp only [List.length_append, List.length_cons, List.length_nil] at hle
   have hmem : x ∈ args := List.mem_of_getElem? hkx
   have HE := zz (HA.out x hmem wr v (Nat.le_trans HB.out HBL.out.size) (HP.out.below (HBL.out.mono HB.out)) (hxin.below (HBL.out.mono HB.out)) (HO.out x hmem) (by omega))
   unfold Tells at HE
   have hs1 : ¬ 9223372036854775807 < 1 + (mkT (brV x)).size := by rw [mkT_size]; omega
   have hs2 : ¬ 9223372036854775807 < 1 + (mkT (brV x)).size + 1 := by rw [mkT_size]; omega
   by_cases hk0 : k = 0
   ·subst hk0
    have HAT := zz (brS_first (name := name) hkx)
    have hs3 : ¬ 9223372036854775807 < (brS name args 0).size + (1 + (mkT (brV x)).size + 1) := by rw [mkT_size]; omega
    clear hkx hxin hle hmem hl hz
    go_wp2_with fail
    refine HE.out.mono ?_
    rintro e w3 ⟨rfl, hb3⟩
    have HB3 := zz (HBL.out.trans (hb3.mono HBL.out.size))
    clear hb3
    go_wp2_with fail
    exact ⟨⟨0 + 1, by omega, by simp, congrArg Value.string HAT.out, HB3.out⟩, by simp [intOf]; omega⟩
   ·have hgt : (0 : Int) < (k : Int) := by omega
    have HAT := zz (brS_next (name := name) hk0 hkx)
    have hs3 : ¬ 9223372036854775807 < (brS name args k).size + 1 := by omega
    have hs4 : ¬ 9223372036854775807 < (brS name args k).size + 1 + (1 + (mkT (brV x)).size + 1) := by rw [mkT_size]; omega
    clear hkx hxin hle hmem hl hz hk0
    go_wp2_with fail
    refine HE.out.mono ?_
    rintro e w3 ⟨rfl, hb3⟩
    have HB3 := zz (HBL.out.trans (hb3.mono HBL.out.size))
    clear hb3
    go_wp2_with fail
    exact ⟨⟨k + 1, by omega, by simp, congrArg Value.string HAT.out, HB3.out⟩, by simp [intOf]; omega⟩
  ·have hki : ¬ (k : Int) < (args.length : Int) := by omega
   have hkk : k = args.length := by omega
   have hs3 : ¬ 9223372036854775807 < (brS name args k).size + 1 := by omega
   have HKK := zz hkk
   clear hkk hl hz
   go_wp2_with fail
   try simp only [Exit.inBlock, Exit.then]
   go_ret
   exact ⟨by rw [HKK.out]; rfl, HBL.out⟩
mutual
theorem brk_all {B : Nat} : ∀ x : Ex, BrC B x
 | .nil => fun w v _ _ hx _ _ => by
  have e : v = .pointer none := hx
  rw [e, brV]
  exact brk_nil w
 | .mk code a n op nm l r zs => fun w v hB hP hx hok hlen => by
  have hl := brk_all (B := B) l
  have hr := brk_all (B := B) r
  have hz := brks_all (B := B) zs
  have hx0 := hx
  obtain ⟨bk, lv, rv, av, rfl, hbk, c0, _, c2, c3, c4, c5, c6, c7, hxl, hxr, ha, has⟩ := hx
  obtain ⟨q, rfl⟩ := exIn_ptr hxl
  obtain ⟨p, rfl⟩ := exIn_ptr hxr
  have hol : ExOk l := hok.2.1
  have hor : ExOk r := hok.2.2.1
  by_cases h5 : code = 5
  ·subst h5
   have e : brV (.mk 5 a n op nm l r zs) = [40] ++ (brV l ++ (sgV op ++ ([32] ++ (brV r ++ [41])))) := by rw [brV]; rfl
   rw [e] at hlen ⊢
   by_cases ho : op = 30
   ·exact brk_binA ho w hB hP hbk c0 c4 c5 c6 hxl hxr hol hor hl hr hlen
   ·by_cases ho2 : op = 31
    ·exact brk_binO ho2 w hB hP hbk c0 c4 c5 c6 hxl hxr hol hor hl hr hlen
    ·exact brk_binN ⟨ho, ho2⟩ w hB hP hbk c0 c4 c5 c6 hxl hxr hol hor hl hr hlen
  by_cases h6 : code = 6
  ·subst h6
   have e : brV (.mk 6 a n op nm l r zs) = signL op ++ ([40] ++ (brV l ++ [41])) := by rw [brV]; rfl
   rw [e] at hlen ⊢
   exact brk_un w hB hP hbk c0 c4 c5 hxl hol hl hlen
  by_cases h10 : code = 10
  ·subst h10
   have e : brV (.mk 10 a n op nm l r zs) = tArrow ++ ([40] ++ (brV l ++ [41])) := by rw [brV]; rfl
   rw [e] at hlen ⊢
   exact brk_recv w hB hP c0 c5 hxl hol hl hlen
  by_cases h8 : code = 8
  ·subst h8
   have e : brV (.mk 8 a n op nm l r zs) = tMake ++ ([40] ++ (([40] ++ (brV l ++ [41])) ++ [41])) := by rw [brV]; rfl
   rw [e] at hlen ⊢
   exact brk_make w hB hP c0 c5 hxl hol hl hlen
  by_cases h9 : code = 9
  ·subst h9
   have e : brV (.mk 9 a n op nm l r zs) = tLen ++ ([40] ++ (([40] ++ (brV l ++ [41])) ++ [41])) := by rw [brV]; rfl
   rw [e] at hlen ⊢
   exact brk_len w hB hP c0 c5 hxl hol hl hlen
  by_cases h7 : code = 7
  ·subst h7
   have e : brV (.mk 7 a n op nm l r zs) = nm ++ ([40] ++ (brAL true zs.toList ++ [41])) := by rw [brV, brAV_list]; rfl
   rw [e] at hlen ⊢
   exact brk_call hz (exsOk_mem zs hok.2.2.2) w hB hP hbk c0 c3 c7 (argsB_of ha has) hlen
  ·have e : brV (.mk code a n op nm l r zs) = [40] ++ (bareV (.mk code a n op nm l r zs) ++ [41]) := by rw [brV, if_neg h5, if_neg h6, if_neg h10, if_neg h8, if_neg h9, if_neg h7]
   rw [e] at hlen ⊢
   exact brk_leaf w hB hP ⟨h5, h6, h7, h8, h9, h10⟩ c0 hx0 hok hlen
theorem brks_all {B : Nat} : ∀ xs : Exs, ∀ x ∈ xs.toList, BrC B x
 | .nil, x, hx => by cases hx
 | .cons y ys, x, hx => by
  rcases List.mem_cons.1 hx with e | e
  ·rw [e]; exact brk_all y
  ·exact brks_all ys x e
end
end Go.Proofs.YtjejcajnnbilmaaGreatDoor
namespace Go.Proofs.YtjejcajnnbilmaaGreatDoor
open Go.RowKit Lx Tr
def smallL : Lx.B := [118, 97, 114, 32, 103, 10, 102, 117, 110, 99, 32, 109, 97, 105, 110, 40, 41, 32, 123, 10, 32, 32, 99, 32, 58, 61, 32, 109, 97, 107, 101, 40, 49, 41, 10, 32, 32, 103, 111, 32, 102, 40, 99, 44, 32, 50, 41, 10, 32, 32, 105, 102, 32, 60, 45, 99, 32, 43, 32, 51, 32, 42, 32, 40, 103, 32, 45, 32, 49, 41, 32, 60, 32, 52, 32, 123, 10, 32, 32, 32, 32, 112, 114, 105, 110, 116, 32, 53, 10, 32, 32, 125, 10, 125, 10, 102, 117, 110, 99, 32, 102, 40, 99, 32, 99, 104, 97, 110, 44, 32, 110, 32, 105, 110, 116, 41, 32, 105, 110, 116, 32, 123, 10, 32, 32, 99, 32, 60, 45, 32, 110, 10, 32, 32, 114, 101, 116, 117, 114, 110, 32, 110, 10, 125, 10]
def smallIs (s : Src) : Bool := s.globals.length == 1 && (s.funcs.length == 2 && ((s.funcs.headD ⟨[], 0, [], 0, .nil⟩).body.len == 3 && printV s == smallL))
def smallT : Bool := match lx smallL 0 false with
 | (ts, none) => match Tr.program ⟨ts, 145⟩ 200 ⟨[], []⟩ 0 with
  | .ok s _ => smallIs s
  | _ => false
 | _ => false
theorem small_t : smallT = true := by kernel_rfl
theorem small_has : ∃ ts s m, lx smallL 0 false = (ts, none) /\ Tr.program ⟨ts, 145⟩ 200 ⟨[], []⟩ 0 = .ok s m /\ smallIs s = true := by
 have h := small_t
 unfold smallT at h
 split at h
 ·rename_i ts hts
  split at h
  ·rename_i s m hs
   exact ⟨ts, s, m, hts, hs, h⟩
  ·cases h
 ·cases h
theorem headD_E {l l' : List Fu} (h : l'.map fuE = l.map fuE) (d : Fu) : fuE (l'.headD d) = fuE (l.headD d) := by
 cases l with
 | nil => cases l' with
  | nil => rfl
  | cons y ys => cases h
 | cons x xs => cases l' with
  | nil => cases h
  | cons y ys =>
   rw [List.map_cons, List.map_cons] at h
   injection h
theorem small_says {r : Res Src} {ts : List Tok} (hts : lx smallL 0 false = (ts, none)) (hr : Ev (fun f => Tr.program ⟨ts, 145⟩ f ⟨[], []⟩ 0) r) :
  ∃ s m, r = .ok s m /\ s.globals.length = 1 /\ s.funcs.length = 2 /\ (s.funcs.headD ⟨[], 0, [], 0, .nil⟩).body.len = 3 /\ printV s = smallL := by
 obtain ⟨ts', s, m, h1, h2, h3⟩ := small_has
 rw [hts] at h1
 cases h1
 simp only [smallIs, Bool.and_eq_true, beq_iff_eq] at h3
 obtain ⟨a1, a2, a3, a4⟩ := h3
 obtain ⟨s', m', rfl, e1, e2⟩ := program_more h2 (by omega) (by omega) hr
 refine ⟨s', m', rfl, ?_, ?_, ?_, ?_⟩
 ·rw [<- a1]; simpa using congrArg List.length e1
 ·rw [<- a2]; simpa using congrArg List.length e2
 ·have h4 := congrArg (fun g : Fu => g.body.len) (headD_E e2 ⟨[], 0, [], 0, .nil⟩)
  simp only [fuE, stsE_len] at h4
  rw [h4, a3]
 ·rw [printV_E e1 e2, a4]
end Go.Proofs.YtjejcajnnbilmaaGreatDoor
namespace Go.Proofs.YtjejcajnnbilmaaGreatDoor
open Go.RowKit Lx Tr
variable {w w' : World}
structure LawEnv (w : World) : Prop where
 tree : TreeEnv w
 pow : PowT w
 pb : 9 < w.heap.size
theorem LawEnv.penv (h : LawEnv w) : PEnv w.heap.size w := ⟨h.tree.signs, h.tree.b1, h.pow, h.pb, h.tree.kinds, h.tree.b2⟩
theorem LawEnv.below (h : LawEnv w) (hb : Below w.heap.size w w') : LawEnv w' := by
 have hl := h.tree.lex.below hb (Nat.le_refl _)
 have hp := h.penv.below hb
 have hz := hb.size
 exact ⟨⟨⟨hl.tabs, hl.errR, hl.sgs, by have := hl.b1; omega, by have := hl.b2; omega, by have := hl.b3; omega, by have := hl.b4; omega⟩, hp.signs, hp.kinds, by have := hp.b1; omega, by have := hp.b3; omega⟩, hp.pow, by have := hp.b2; omega⟩
theorem err_isNone (w : World) : (binOp BinOp.eql 33 .nilIface .nilIface).run Tryz.prog w = .ok (.bool true) w := by kernel_rfl
theorem err_isAt (p : Addr) (w : World) : (binOp BinOp.eql 33 (.iface 107 (.pointer (some p))) .nilIface).run Tryz.prog w = .ok (.bool false) w := by kernel_rfl
theorem longT_any (s : ByteArray) (w : World) : Calls Tryz.prog 39 #[.string s] w fun e w' => e = .returned (.bool (decide (1500 < s.size))) /\ w = w' := by
 go_enter Tryz.func39, Tryz.ntmps39
 go_wp2_with fail
 go_ret
 refine ⟨?_, rfl⟩
 have e : ((1500 : Int) < (s.size : Int)) ↔ 1500 < s.size := by omega
 show Ending.returned (Value.bool (decide ((1500 : Int) < (s.size : Int)))) = _
 rw [decide_eq_decide.2 e]
def ReadSays (w w' : World) (s : ByteArray) (e : Ending) : Prop :=
 (∃ ts src m gv fv, s.size <= 1500 /\ lx s.data.toList 0 false = (ts, none) /\ Ev (fun f => Tr.program ⟨ts, s.size⟩ f ⟨[], []⟩ 0) (.ok src m) /\ e = .returned (.tuple #[.agg #[gv, fv], .bool true]) /\ SrcO w' w.heap.size src gv fv) \/ e = .returned (.tuple #[.agg #[.slice none 0 0, .slice none 0 0], .bool false])
theorem parse_two {s : ByteArray} {e : Ending} (hs : s.size <= 4000) (h : ParseSays w w' s e) : (∃ ts src m gv fv, lx s.data.toList 0 false = (ts, none) /\ Ev (fun f => Tr.program ⟨ts, s.size⟩ f ⟨[], []⟩ 0) (.ok src m) /\ e = .returned (.tuple #[.agg #[gv, fv], .nilIface]) /\ SrcO w' w.heap.size src gv fv) ∨
  ∃ b, e = .returned (.tuple #[.agg #[.slice none 0 0, .slice none 0 0], .iface 107 (.pointer (some ⟨b, 0, none⟩))]) := by
 unfold ParseSays at h
 rw [if_neg (by omega)] at h
 split at h
 ·obtain ⟨x, rfl, b, rfl, _⟩ := h
  exact Or.inr ⟨b, rfl⟩
 ·rename_i ts hts
  obtain ⟨r, hev, hr⟩ := h
  cases r with
  | out => exact hr.elim
  | bad k a =>
   obtain ⟨x, rfl, b, rfl, _⟩ := hr
   exact Or.inr ⟨b, rfl⟩
  | ok src m =>
   obtain ⟨gv, fv, rfl, hs⟩ := hr
   exact Or.inl ⟨ts, src, m, gv, fv, hts, hev, rfl, hs⟩
theorem read_any (s : ByteArray) (w : World) (hE : LawEnv w) : Calls Tryz.prog 17 #[.string s] w fun e w' => ReadSays w w' s e /\ Below w.heap.size w w' := by
 have hb0 := fresh_alloc w #[.slice none 0 0, .slice none 0 0] 26
 have HL := zz (longT_any s (w.alloc (.cells #[.slice none 0 0, .slice none 0 0] 26)))
 have HP := zz (treeParse_any s (w.alloc (.cells #[.slice none 0 0, .slice none 0 0] 26)) (hE.below hb0).tree)
 have HB0 := zz hb0
 clear hE hb0
 go_enter Tryz.func17, Tryz.ntmps17
 go_wp2_with fail
 refine HL.out.mono ?_
 rintro e w1 ⟨rfl, rfl⟩
 by_cases hs : 1500 < s.size
 ·rw [decide_eq_true hs]
  clear hs
  go_wp2_with fail
  refine bodyPost_ret (v := .tuple #[noSrc, .bool false]) (by simp [results, Tryz.results17, go_sem]; rfl) rfl ?_
  exact ⟨Or.inr rfl, HB0.out⟩
 ·rw [decide_eq_false hs]
  have HS : Hid (s.size <= 1500) := zz (by omega)
  clear hs
  go_wp2_with fail
  refine HP.out.mono ?_
  rintro e w2 ⟨hsay, hb2⟩
  have hz : w.heap.size < w2.heap.size := Nat.lt_of_lt_of_le (by simp) hb2.size
  have c0 : w2.cell? ⟨w.heap.size, 0, none⟩ = some (.slice none 0 0) := by rw [hb2.cell (p := ⟨w.heap.size, 0, none⟩) (by simp)]; exact cell_new _ _ _ 0 _ rfl (by simp)
  have c1 : w2.cell? ⟨w.heap.size, 1, none⟩ = some (.slice none 0 0) := by rw [hb2.cell (p := ⟨w.heap.size, 1, none⟩) (by simp)]; exact cell_new _ _ _ 1 _ rfl (by simp)
  have z0 : w2.frozen? ⟨w.heap.size, 0, none⟩ = false := by rw [hb2.frozen (p := ⟨w.heap.size, 0, none⟩) (by simp)]; exact World.frozen?_alloc_new _ _ _ _
  have z1 : w2.frozen? ⟨w.heap.size, 1, none⟩ = false := by rw [hb2.frozen (p := ⟨w.heap.size, 1, none⟩) (by simp)]; exact World.frozen?_alloc_new _ _ _ _
  have HB2 := zz (HB0.out.trans (hb2.mono HB0.out.size))
  have HZ := zz hz
  rcases parse_two (by have := HS.out; omega) hsay with ⟨ts, src, m, gv, fv, hts, hev, rfl, hsrc⟩ | ⟨b, rfl⟩
  ·obtain ⟨⟨ga, gl, gc, rfl⟩, fa, fl, fc, rfl⟩ := hsrc.form
   have HTS := zz hts
   have HEV := zz hev
   have HSRC := zz hsrc
   clear hsay hb2 hts hev hsrc
   have hE1 := err_isNone
   go_wp2_with fail
   go_region
   go_wp2_with fail
   try simp only [Exit.inBlock, Exit.then]
   have hks : Keeps (fun k => k = w.heap.size) w2 ((((w2.setCell ⟨w.heap.size, 0, none⟩ (.slice ga gl gc)).setCell ⟨w.heap.size, 1, none⟩ (.slice fa fl fc)).alloc (.cells #[.slice ga gl gc, .slice fa fl fc] 26)).drew) := ((own2 (w := w2)).alloc _).drew
   have e0 : (((w2.setCell ⟨w.heap.size, 0, none⟩ (.slice ga gl gc)).setCell ⟨w.heap.size, 1, none⟩ (.slice fa fl fc)).alloc (.cells #[.slice ga gl gc, .slice fa fl fc] 26)).cell? ⟨w.heap.size, 0, none⟩ = some (.slice ga gl gc) := cell_more (by rw [World.cell?_setCell_other _ _ _ _ (fun e => by injection e with _ e _; cases e)]; exact World.cell?_setCell_same _ _ _ c0)
   have e1 : (((w2.setCell ⟨w.heap.size, 0, none⟩ (.slice ga gl gc)).setCell ⟨w.heap.size, 1, none⟩ (.slice fa fl fc)).alloc (.cells #[.slice ga gl gc, .slice fa fl fc] 26)).cell? ⟨w.heap.size, 1, none⟩ = some (.slice fa fl fc) := cell_more (World.cell?_setCell_same _ _ _ (by rw [World.cell?_setCell_other _ _ _ _ (fun e => by injection e with _ e _; cases e)]; exact c1))
   refine bodyPost_ret (v := .tuple #[.agg #[.slice ga gl gc, .slice fa fl fc], .bool true]) (by simp [results, Tryz.results17, go_sem, e0, e1]) rfl ?_
   have hz0 := HZ.out
   exact ⟨Or.inl ⟨ts, src, m, _, _, HS.out, HTS.out, HEV.out, rfl, SrcO.mono (B := (w.alloc (.cells #[.slice none 0 0, .slice none 0 0] 26)).heap.size) (by simp) (HSRC.out.keeps hks (fun b e e2 => by have h9 : b = w.heap.size := e2; have h8 : w.heap.size + 1 <= b := (by simpa using e); omega))⟩, HB2.out.trans (hks.below (by omega) (fun k _ e => by have h9 : k = w.heap.size := e; omega))⟩
  ·clear hsay hb2
   have hE1 := err_isAt ⟨b, 0, none⟩
   go_wp2_with fail
   go_region
   go_wp2_with fail
   try simp only [Exit.inBlock, Exit.then]
   have hks : Keeps (fun k => k = w.heap.size) w2 ((((w2.setCell ⟨w.heap.size, 0, none⟩ (.slice none 0 0)).setCell ⟨w.heap.size, 1, none⟩ (.slice none 0 0)).alloc (.cells #[.slice none 0 0, .slice none 0 0] 26)).drew) := ((own2 (w := w2)).alloc _).drew
   have e0 : (((w2.setCell ⟨w.heap.size, 0, none⟩ (.slice none 0 0)).setCell ⟨w.heap.size, 1, none⟩ (.slice none 0 0)).alloc (.cells #[.slice none 0 0, .slice none 0 0] 26)).cell? ⟨w.heap.size, 0, none⟩ = some (.slice none 0 0) := cell_more (by rw [World.cell?_setCell_other _ _ _ _ (fun e => by injection e with _ e _; cases e)]; exact World.cell?_setCell_same _ _ _ c0)
   have e1 : (((w2.setCell ⟨w.heap.size, 0, none⟩ (.slice none 0 0)).setCell ⟨w.heap.size, 1, none⟩ (.slice none 0 0)).alloc (.cells #[.slice none 0 0, .slice none 0 0] 26)).cell? ⟨w.heap.size, 1, none⟩ = some (.slice none 0 0) := cell_more (World.cell?_setCell_same _ _ _ (by rw [World.cell?_setCell_other _ _ _ _ (fun e => by injection e with _ e _; cases e)]; exact c1))
   refine bodyPost_ret (v := .tuple #[.agg #[.slice none 0 0, .slice none 0 0], .bool false]) (by simp [results, Tryz.results17, go_sem, e0, e1]) rfl ?_
   have hz0 := HZ.out
   exact ⟨Or.inr rfl, HB2.out.trans (hks.below (by omega) (fun k _ e => by have h9 : k = w.heap.size := e; omega))⟩
theorem ownsRow_form {w : World} {base : Nat} {e : TypeId} {size : Nat} {v : Value} {n : Nat} {xs : List Value} (h : w.ownsRow base e size v n xs) : ∃ ao cap, v = .slice ao n cap := by
 rcases h.2 with ⟨e1, e2⟩ | ⟨g, cap, cur, e1, _⟩
 ·exact ⟨none, 0, by rw [e1, e2]⟩
 ·exact ⟨_, _, e1⟩
theorem SrcO.toG {B : Nat} {G : Nat -> Prop} {src : Src} {gv fv : Value} (h : SrcO w B src gv fv) (hG : ∀ b, b < w.heap.size -> B <= b -> G b) : SrcF w G src gv fv := by
 obtain ⟨fvals, h2, h3, h4, h5, h6, h7⟩ := h
 refine ⟨?_, ?_⟩
 ·by_cases hz : src.globals = []
  ·exact Or.inl ⟨h5 hz, hz⟩
  ·have hpos : 0 < src.globals.length := List.length_pos_iff.2 hz
   rcases h2.2 with ⟨_, e⟩ | ⟨g, cap, cur, e1, e2, e5, e3, e4, _⟩
   ·omega
   ·refine Or.inr ⟨g, cap, e1, e3, e4, hG g (Array.getElem?_eq_some_iff.1 e5).1 e2, hpos, fun i p hi => ?_⟩
    obtain ⟨a1, a2⟩ := glCells_at src.globals i p hi
    have hin := (List.getElem?_eq_some_iff.1 hi).1
    subst e1
    rw [World.ownsRow.cellAt h2 (i * 2) (by omega), World.ownsRow.cellAt h2 (i * 2 + 1) (by omega)]
    exact ⟨a1, a2⟩
 ·by_cases hz : src.funcs = []
  ·exact Or.inl ⟨h6 hz, hz⟩
  ·have hpos : 0 < src.funcs.length := List.length_pos_iff.2 hz
   rcases h3.2 with ⟨_, e⟩ | ⟨g, cap, cur, e1, e2, e5, e3, e4, _⟩
   ·omega
   ·refine Or.inr ⟨g, cap, e1, e3, e4, hG g (Array.getElem?_eq_some_iff.1 e5).1 e2, hpos, fun i p hi => ?_⟩
    subst e1
    have h8 := RowF.lies src.funcs fvals 0 (g := g) (fun j v hj => by
     rw [show 0 * 5 + j = j by omega, World.ownsRow.cellAt h3 j (by have := (List.getElem?_eq_some_iff.1 hj).1; have := h3.1; omega)]
     exact hj) (RowF.mono (fun b hb e => hG b hb e.1) _ _ h4) i p hi
    rw [Nat.zero_add] at h8
    exact h8
theorem small_parse {s : ByteArray} {e : Ending} (hs : s.size = 145) (hl : s.data.toList = smallL) (h : ParseSays w w' s e) : ∃ src gv fv, e = .returned (.tuple #[.agg #[gv, fv], .nilIface]) /\ SrcO w' w.heap.size src gv fv /\ SrcOk src /\ src.globals.length = 1 /\ src.funcs.length = 2 /\ (src.funcs.headD ⟨[], 0, [], 0, .nil⟩).body.len = 3 /\ printV src = smallL := by
 obtain ⟨ts0, s0, m0, h1, _, _⟩ := small_has
 unfold ParseSays at h
 rw [if_neg (by omega), hl, hs] at h
 rw [h1] at h
 simp only at h
 obtain ⟨r, hev, hr⟩ := h
 obtain ⟨src, m, rfl, a1, a2, a3, a4⟩ := small_says h1 hev
 obtain ⟨gv, fv, rfl, hso⟩ := hr
 exact ⟨src, gv, fv, rfl, hso, (text_len h1 hev).1, a1, a2, a3, a4⟩
theorem grown_any (w : World) (hE : LawEnv w) : Calls Tryz.prog 16 #[] w fun e w' => e = .returned (.bool true) /\ Below w.heap.size w w' := by
 have HE := zz hE
 clear hE
 go_enter Tryz.func16, Tryz.ntmps16
 go_wp2_with fail
 refine (treeParse_any _ _ HE.out.tree).mono ?_
 rintro e w1 ⟨hsay, hb1⟩
 obtain ⟨src, gv, fv, rfl, hso, hok, hg1, hf2, hb3, hpr⟩ := small_parse (by kernel_rfl) (by kernel_rfl) hsay
 clear hsay
 obtain ⟨ga, gc, rfl⟩ := ownsRow_form hso.choose_spec.1
 obtain ⟨fa, fc, rfl⟩ := ownsRow_form hso.choose_spec.2.1
 obtain ⟨fu, rest, hfu⟩ : ∃ fu rest, src.funcs = fu :: rest := by
  cases hq : src.funcs with
  | nil => rw [hq] at hf2; cases hf2
  | cons x xs => exact ⟨x, xs, rfl⟩
 have hso2 : SrcO (w1.alloc (.cells #[.slice ga src.globals.length gc, .slice fa src.funcs.length fc] 26)) w.heap.size src (.slice ga src.globals.length gc) (.slice fa src.funcs.length fc) := hso.keeps (S := fun _ => False) ((Keeps.refl _ _).alloc _) (fun _ _ e => e)
 have hbx := hb1.trans ((fresh_alloc w1 #[.slice ga src.globals.length gc, .slice fa src.funcs.length fc] 26).mono hb1.size)
 have HPR := zz (print_any (w1.alloc (.cells #[.slice ga src.globals.length gc, .slice fa src.funcs.length fc] 26)) (hso2.toG (fun b h1 _ => h1)) (HE.out.below hbx).penv hok (by rw [hpr]; decide))
 rw [hpr] at HPR
 unfold Tells at HPR
 have HBX := zz hbx
 rcases hso2.toF.2 with ⟨_, e2⟩ | ⟨fg, cap, e, _, _, _, _, h6⟩
 ·rw [hfu] at e2; cases e2
 injection e with e1 _ e3
 subst e1
 subst e3
 obtain ⟨pv, bv, _, _, _, _, c4, _, hst⟩ := h6 0 fu (by rw [hfu]; rfl)
 have hbl : fu.body.len = 3 := by rw [hfu] at hb3; exact hb3
 obtain ⟨bo, bn, bc, rfl⟩ := slAt_form hst.1
 have hbn := slAt_len hst.1
 rw [hbl] at hbn
 subst hbn
 rw [hg1, hf2] at HPR HBX c4
 rw [hg1, hf2]
 have hEN := err_isNone
 clear hso hso2 hok hpr hb3 hfu h6 hst hbl hbx hb1
 clear hg1 hf2
 go_wp2_with fail
 refine HPR.out.mono ?_
 rintro e w2 ⟨rfl, hb2⟩
 have HB2 := zz (HBX.out.trans (hb2.mono HBX.out.size))
 clear hb2
 go_wp2_with fail
 go_ret
 have hq : ((mkT smallL).toList == smallL) = true := by rw [ByteArray.toList_eq]; exact beq_self_eq_true _
 refine ⟨?_, HB2.out⟩
 show Ending.returned (.bool ((mkT smallL).toList == smallL)) = _
 rw [hq]
end Go.Proofs.YtjejcajnnbilmaaGreatDoor
namespace Go.Proofs.YtjejcajnnbilmaaGreatDoor
open Go.RowKit Go.Extern.Stop Go.Stop Go.Extern
namespace As
theorem valueOfP (t : Addr) (w : World) : (ReflectliteValue.unpack (.iface 92 (.pointer (some t)))).run Tryz.prog w
  = .ok (.agg #[.pointer (some ⟨12, 92, none⟩), .pointer (some ⟨w.heap.size, 0, none⟩), .int .u64 150]) (w.alloc (.cells #[.pointer (some t)] 92)) := by kernel_rfl
theorem typeP (a : Addr) (w : World) : (ReflectliteValue.methodAny (ReflectliteValue.valueError "reflectlite.Value.Type" 0) (fun t _ _ _ => ReflectliteType.toType t) #[.agg #[.pointer (some ⟨12, 92, none⟩), .pointer (some a), .int .u64 150]]).run Tryz.prog w
  = .ok (.iface 160 (.agg #[.pointer (some ⟨12, 92, none⟩)])) w := by kernel_rfl
theorem methodKind (h : Value) (w : World) : (Go.method 374 160 (.agg #[h]) "Kind").run Tryz.prog w = .ok (232, h) w := by kernel_rfl
theorem kindP (w : World) : ((ReflectliteType.abiMethod fun t => (fun a : Nat => Value.int IntKind.u8 (a : Int)) <$> Rtype.kind t) #[.pointer (some ⟨12, 92, none⟩)]).run Tryz.prog w = .ok (.int .u8 22) w := by kernel_rfl
theorem kindE (w : World) : ((ReflectliteType.abiMethod fun t => (fun a : Nat => Value.int IntKind.u8 (a : Int)) <$> Rtype.kind t) #[.pointer (some ⟨12, 27, none⟩)]).run Tryz.prog w = .ok (.int .u8 2) w := by kernel_rfl
theorem isNilP (a p : Addr) (W : World) (ha : W.cell? a = some (.pointer (some p))) :
  (ReflectliteValue.method (ReflectliteValue.valueError "reflectlite.Value.IsNil" 0) ReflectliteValue.isNil #[.agg #[.pointer (some ⟨12, 92, none⟩), .pointer (some a), .int .u64 150]]).run Tryz.prog W = .ok (.bool false) W := by
 refine Eq.trans (b := (ReflectliteValue.isNil 92 a 150 22).run Tryz.prog W) (by kernel_rfl) ?_
 simp [ReflectliteValue.isNil, loadVar, isAgg, underlying, Tryz.underlying92, ha, Result.andThen]
theorem methodElem (h : Value) (w : World) : (Go.method 374 160 (.agg #[h]) "Elem").run Tryz.prog w = .ok (245, .agg #[h]) w := by kernel_rfl
theorem methodAssignableTo (h : Value) (w : World) : (Go.method 374 160 (.agg #[h]) "AssignableTo").run Tryz.prog w = .ok (243, .agg #[h]) w := by kernel_rfl
theorem methodImplements (h : Value) (w : World) : (Go.method 374 160 (.agg #[h]) "Implements").run Tryz.prog w = .ok (246, .agg #[h]) w := by kernel_rfl
theorem elemT (w : World) : (ReflectliteType.method ReflectliteType.elem #[.agg #[.pointer (some ⟨12, 92, none⟩)]]).run Tryz.prog w = .ok (.iface 160 (.agg #[.pointer (some ⟨12, 27, none⟩)])) w := by kernel_rfl
theorem implementsE (w : World) : (ReflectliteType.relation "Implements" ReflectliteType.implements_ #[.agg #[.pointer (some ⟨12, 27, none⟩)], .iface 160 (.agg #[.pointer (some ⟨12, 33, none⟩)])]).run Tryz.prog w = .ok (.bool true) w := by kernel_rfl
theorem typeOfE (v : Value) (w : World) : (ReflectliteType.typeOf #[.iface 27 v]).run Tryz.prog w = .ok (.iface 160 (.agg #[.pointer (some ⟨12, 27, none⟩)])) w := by kernel_rfl
theorem assignableE (w : World) : (ReflectliteType.relation "AssignableTo" ReflectliteType.assignableTo #[.agg #[.pointer (some ⟨12, 27, none⟩)], .iface 160 (.agg #[.pointer (some ⟨12, 27, none⟩)])]).run Tryz.prog w = .ok (.bool true) w := by kernel_rfl
theorem valueOfE (k : Int) (w : World) : (ReflectliteValue.unpack (.iface 27 (.int .i64 k))).run Tryz.prog w
  = .ok (.agg #[.pointer (some ⟨12, 27, none⟩), .pointer (some ⟨w.heap.size, 0, none⟩), .int .u64 130]) (w.alloc (.cells #[.int .i64 k] 27)) := by kernel_rfl
theorem elemOfP (w : World) : (Rtype.elem? 92).run Tryz.prog w = .ok (some 27) w := by kernel_rfl
theorem mkE (p : Addr) (w : World) : (ReflectliteValue.mk 27 p ReflectliteValue.flagAddr).run Tryz.prog w = .ok (.agg #[.pointer (some ⟨12, 27, none⟩), .pointer (some p), .int .u64 386]) w := by kernel_rfl
theorem elemV (a p : Addr) (W : World) (ha : W.cell? a = some (.pointer (some p))) :
  (ReflectliteValue.method (ReflectliteValue.valueError "reflectlite.Value.Elem" 0) ReflectliteValue.elem #[.agg #[.pointer (some ⟨12, 92, none⟩), .pointer (some a), .int .u64 150]]).run Tryz.prog W
   = .ok (.agg #[.pointer (some ⟨12, 27, none⟩), .pointer (some p), .int .u64 386]) W := by
 refine Eq.trans (b := (ReflectliteValue.elem 92 a 150 22).run Tryz.prog W) (by kernel_rfl) ?_
 simp [ReflectliteValue.elem, loadVar, isAgg, underlying, Tryz.underlying92, ha, Result.andThen, elemOfP, mkE]
theorem partsEa (a : Addr) (w : World) : (ReflectliteValue.parts (.agg #[.pointer (some ⟨12, 27, none⟩), .pointer (some a), .int .u64 386])).run Tryz.prog w = .ok (some (27, a, 386)) w := by kernel_rfl
theorem partsE (a : Addr) (w : World) : (ReflectliteValue.parts (.agg #[.pointer (some ⟨12, 27, none⟩), .pointer (some a), .int .u64 130])).run Tryz.prog w = .ok (some (27, a, 130)) w := by kernel_rfl
theorem directE (w : World) : (Rtype.directlyAssignable 27 27).run Tryz.prog w = .ok true w := by kernel_rfl
theorem setE (ta b : Addr) (k : Int) (old : Value) (W : World) (hb : W.cell? b = some (.int .i64 k)) (ht : W.cell? ta = some old) (hf : W.frozen? ta = false) :
  (ReflectliteValue.set #[.agg #[.pointer (some ⟨12, 27, none⟩), .pointer (some ta), .int .u64 386], .agg #[.pointer (some ⟨12, 27, none⟩), .pointer (some b), .int .u64 130]]).run Tryz.prog W
   = .ok (.tuple #[]) (W.setCell ta (.int .i64 k)) := by
 have hset := fun v x : Value => id (α := ReflectliteValue.set #[v, x] = (ReflectliteValue.parts v >>= fun p => ReflectliteValue.parts x >>= _)) rfl
 rw [hset]
 simp only [Sem.run_bind, partsEa, partsE, Result.andThen]
 simp [ReflectliteValue.flagAddr, loadVar, isAgg, underlying, Tryz.underlying27, hb, Result.andThen, directE, storeVar, Value.cells, storeCells, Addr.add]
 rw [run_store Tryz.prog W ta _ _ (by rfl)]
 simp [ht, hf]
end As
end Go.Proofs.YtjejcajnnbilmaaGreatDoor
namespace Go.Proofs.YtjejcajnnbilmaaGreatDoor
open Go.RowKit Go.Extern.Stop Go.Stop Go.Extern
def ErrT (w : World) : Prop := w.cell? ⟨1, 0, none⟩ = some (.iface 160 (.agg #[.pointer (some ⟨12, 33, none⟩)]))
theorem asErrno_any (k : Int) (t : Addr) (old : Value) (w : World) (hg : ErrT w) (ht0 : w.cell? t = some old) (hf0 : w.frozen? t = false) :
  Calls Tryz.prog 41 #[.iface 27 (.int .i64 k), .iface 92 (.pointer (some t))] w fun ev w' => ev = .returned (.bool true) /\ w'.cell? t = some (.int .i64 k) /\ Below t.block w w' := by
 unfold ErrT at hg
 have h6 := @run_callFunc_extern Tryz.prog 69 _ (fun args => ReflectliteValue.unpack (args.getD 0 (.tuple #[]))) Tryz.func69 (by kernel_rfl) (by kernel_rfl) (by kernel_rfl) (by kernel_rfl)
 have h7 := @run_callFunc_extern Tryz.prog 70 _ (ReflectliteValue.methodAny (ReflectliteValue.valueError "reflectlite.Value.Type" 0) (fun t _ _ _ => ReflectliteType.toType t)) Tryz.func70 (by kernel_rfl) (by kernel_rfl) (by kernel_rfl) (by kernel_rfl)
 have h8 := @run_callFunc_extern Tryz.prog 71 _ (ReflectliteValue.method (ReflectliteValue.valueError "reflectlite.Value.IsNil" 0) ReflectliteValue.isNil) Tryz.func71 (by kernel_rfl) (by kernel_rfl) (by kernel_rfl) (by kernel_rfl)
 have h27 := @run_callFunc_extern Tryz.prog 232 _ (ReflectliteType.abiMethod fun t => do pure (.int .u8 (<- Rtype.kind t))) Tryz.func232 (by kernel_rfl) (by kernel_rfl) (by kernel_rfl) (by kernel_rfl)
 have h37 := @run_callFunc_extern Tryz.prog 245 _ (ReflectliteType.method ReflectliteType.elem) Tryz.func245 (by kernel_rfl) (by kernel_rfl) (by kernel_rfl) (by kernel_rfl)
 have h38 := @run_callFunc_extern Tryz.prog 246 _ (ReflectliteType.relation "Implements" ReflectliteType.implements_) Tryz.func246 (by kernel_rfl) (by kernel_rfl) (by kernel_rfl) (by kernel_rfl)
 have h10 := @run_callFunc_extern Tryz.prog 101 _ ReflectliteType.typeOf Tryz.func101 (by kernel_rfl) (by kernel_rfl) (by kernel_rfl) (by kernel_rfl)
 have h35 := @run_callFunc_extern Tryz.prog 243 _ (ReflectliteType.relation "AssignableTo" ReflectliteType.assignableTo) Tryz.func243 (by kernel_rfl) (by kernel_rfl) (by kernel_rfl) (by kernel_rfl)
 have h11 := @run_callFunc_extern Tryz.prog 102 _ (ReflectliteValue.method (ReflectliteValue.valueError "reflectlite.Value.Elem" 0) ReflectliteValue.elem) Tryz.func102 (by kernel_rfl) (by kernel_rfl) (by kernel_rfl) (by kernel_rfl)
 have h12 := @run_callFunc_extern Tryz.prog 103 _ ReflectliteValue.set Tryz.func103 (by kernel_rfl) (by kernel_rfl) (by kernel_rfl) (by kernel_rfl)
 have tO := As.typeOfE
 have mA := As.methodAssignableTo
 have aE := As.assignableE
 have vE := As.valueOfE
 have f6 := As.valueOfP
 have f7 := As.typeP
 have mK := As.methodKind
 have mE := As.methodElem
 have mI := As.methodImplements
 have kP := As.kindP
 have kE := As.kindE
 have eT := As.elemT
 have iE := As.implementsE
 have n8 := As.isNilP ⟨w.heap.size, 0, none⟩ t ((w.alloc (.cells #[.pointer (some t)] 92)).alloc (.cells #[.pointer (some ⟨12, 92, none⟩), .pointer (some ⟨w.heap.size, 0, none⟩), .int .u64 150] 128)) (by simp)
 have hlt : 1 < w.heap.size := block_lt_of_cell hg
 have hg2 : ((w.alloc (.cells #[.pointer (some t)] 92)).alloc (.cells #[.pointer (some ⟨12, 92, none⟩), .pointer (some ⟨w.heap.size, 0, none⟩), .int .u64 150] 128)).cell? ⟨1, 0, none⟩ = some (.iface 160 (.agg #[.pointer (some ⟨12, 33, none⟩)])) := by
  rw [World.cell?_alloc_lt _ _ ⟨1, 0, none⟩ (by first | (simp; done) | (simp; omega)), World.cell?_alloc_lt _ _ ⟨1, 0, none⟩ hlt]; exact hg
 have htl : t.block < w.heap.size := block_lt_of_cell ht0
 have el := As.elemV ⟨w.heap.size, 0, none⟩ t (((w.alloc (.cells #[.pointer (some t)] 92)).alloc (.cells #[.pointer (some ⟨12, 92, none⟩), .pointer (some ⟨w.heap.size, 0, none⟩), .int .u64 150] 128)).alloc (.cells #[.pointer (some ⟨12, 92, none⟩), .pointer (some ⟨w.heap.size, 0, none⟩), .int .u64 150] 128)) (by rw [World.cell?_alloc_lt _ _ ⟨w.heap.size, 0, none⟩ (by simp; omega)]; simp)
 have hct : ((((w.alloc (.cells #[.pointer (some t)] 92)).alloc (.cells #[.pointer (some ⟨12, 92, none⟩), .pointer (some ⟨w.heap.size, 0, none⟩), .int .u64 150] 128)).alloc (.cells #[.pointer (some ⟨12, 92, none⟩), .pointer (some ⟨w.heap.size, 0, none⟩), .int .u64 150] 128)).alloc (.cells #[.int .i64 k] 27)).cell? t = some old := by
  rw [World.cell?_alloc_lt _ _ t (by simp; omega), World.cell?_alloc_lt _ _ t (by simp; omega), World.cell?_alloc_lt _ _ t (by simp; omega), World.cell?_alloc_lt _ _ t htl]; exact ht0
 have st := As.setE t ⟨w.heap.size + 1 + 1 + 1, 0, none⟩ k old ((((w.alloc (.cells #[.pointer (some t)] 92)).alloc (.cells #[.pointer (some ⟨12, 92, none⟩), .pointer (some ⟨w.heap.size, 0, none⟩), .int .u64 150] 128)).alloc (.cells #[.pointer (some ⟨12, 92, none⟩), .pointer (some ⟨w.heap.size, 0, none⟩), .int .u64 150] 128)).alloc (.cells #[.int .i64 k] 27))
  (by rw [World.cell?_alloc_at _ _ _ _ (by simp)]; rfl) hct
  (by rw [World.frozen?_alloc_old _ _ t (by simp; omega), World.frozen?_alloc_old _ _ t (by simp; omega), World.frozen?_alloc_old _ _ t (by simp; omega), World.frozen?_alloc_old _ _ t (Nat.ne_of_lt htl)]; exact hf0)
 have HCT := zz hct
 clear hct
 go_enter Tryz.func41, Tryz.ntmps41
 go_wp2
 refine wp_loop_rounds 1 ?_
 rw [rounds_succ]
 go_wp2
 go_ret
 refine ⟨rfl, ?_, ?_⟩
 ·exact World.cell?_setCell_same _ _ _ HCT.out
 ·exact (((((Below.refl _ _).alloc (by omega) _).alloc (by simp; omega) _).alloc (by simp; omega) _).alloc (by simp; omega) _).setCell (Nat.le_refl _) _
namespace As
theorem typeOfA (v : Value) (w : World) : (ReflectliteType.typeOf #[.iface 107 v]).run Tryz.prog w = .ok (.iface 160 (.agg #[.pointer (some ⟨12, 107, none⟩)])) w := by kernel_rfl
theorem assignableA (w : World) : (ReflectliteType.relation "AssignableTo" ReflectliteType.assignableTo #[.agg #[.pointer (some ⟨12, 107, none⟩)], .iface 160 (.agg #[.pointer (some ⟨12, 27, none⟩)])]).run Tryz.prog w = .ok (.bool false) w := by kernel_rfl
theorem atLacksAs (v : Value) (xT : TypeId) (w : World) : (Instr.typeAssert (.iface 107 v) xT 165 true).run Tryz.prog w = .ok (.tuple #[.nilIface, .bool false]) w :=
 Go.run_typeAssert_lacksB Tryz.underlying165 (by kernel_rfl) (by kernel_rfl) v xT w
theorem atUnwraps (v : Value) (xT : TypeId) (w : World) : (Instr.typeAssert (.iface 107 v) xT 115 true).run Tryz.prog w = .ok (.tuple #[.iface 107 v, .bool true]) w := by kernel_rfl
theorem methodUnwrap (p : Addr) (w : World) : (Go.method 374 107 (.pointer (some p)) "Unwrap").run Tryz.prog w = .ok (238, .pointer (some p)) w := by kernel_rfl
end As
theorem asAt_any (k : Int) (b : Nat) (t : Addr) (old : Value) (w : World) (hg : ErrT w) (hc0 : w.cell? ⟨b, 0, none⟩ = some (.int .i64 k)) (ht0 : w.cell? t = some old) (hf0 : w.frozen? t = false) :
  Calls Tryz.prog 41 #[.iface 107 (.pointer (some ⟨b, 0, none⟩)), .iface 92 (.pointer (some t))] w fun ev w' => ev = .returned (.bool true) /\ w'.cell? t = some (.int .i64 k) /\ Below t.block w w' := by
 unfold ErrT at hg
 have h6 := @run_callFunc_extern Tryz.prog 69 _ (fun args => ReflectliteValue.unpack (args.getD 0 (.tuple #[]))) Tryz.func69 (by kernel_rfl) (by kernel_rfl) (by kernel_rfl) (by kernel_rfl)
 have h7 := @run_callFunc_extern Tryz.prog 70 _ (ReflectliteValue.methodAny (ReflectliteValue.valueError "reflectlite.Value.Type" 0) (fun t _ _ _ => ReflectliteType.toType t)) Tryz.func70 (by kernel_rfl) (by kernel_rfl) (by kernel_rfl) (by kernel_rfl)
 have h8 := @run_callFunc_extern Tryz.prog 71 _ (ReflectliteValue.method (ReflectliteValue.valueError "reflectlite.Value.IsNil" 0) ReflectliteValue.isNil) Tryz.func71 (by kernel_rfl) (by kernel_rfl) (by kernel_rfl) (by kernel_rfl)
 have h27 := @run_callFunc_extern Tryz.prog 232 _ (ReflectliteType.abiMethod fun t => do pure (.int .u8 (<- Rtype.kind t))) Tryz.func232 (by kernel_rfl) (by kernel_rfl) (by kernel_rfl) (by kernel_rfl)
 have h37 := @run_callFunc_extern Tryz.prog 245 _ (ReflectliteType.method ReflectliteType.elem) Tryz.func245 (by kernel_rfl) (by kernel_rfl) (by kernel_rfl) (by kernel_rfl)
 have h38 := @run_callFunc_extern Tryz.prog 246 _ (ReflectliteType.relation "Implements" ReflectliteType.implements_) Tryz.func246 (by kernel_rfl) (by kernel_rfl) (by kernel_rfl) (by kernel_rfl)
 have h10 := @run_callFunc_extern Tryz.prog 101 _ ReflectliteType.typeOf Tryz.func101 (by kernel_rfl) (by kernel_rfl) (by kernel_rfl) (by kernel_rfl)
 have h35 := @run_callFunc_extern Tryz.prog 243 _ (ReflectliteType.relation "AssignableTo" ReflectliteType.assignableTo) Tryz.func243 (by kernel_rfl) (by kernel_rfl) (by kernel_rfl) (by kernel_rfl)
 have h11 := @run_callFunc_extern Tryz.prog 102 _ (ReflectliteValue.method (ReflectliteValue.valueError "reflectlite.Value.Elem" 0) ReflectliteValue.elem) Tryz.func102 (by kernel_rfl) (by kernel_rfl) (by kernel_rfl) (by kernel_rfl)
 have h12 := @run_callFunc_extern Tryz.prog 103 _ ReflectliteValue.set Tryz.func103 (by kernel_rfl) (by kernel_rfl) (by kernel_rfl) (by kernel_rfl)
 have tO := As.typeOfE
 have tOA := As.typeOfA
 have aA := As.assignableA
 have asN := As.atLacksAs (.pointer (some ⟨b, 0, none⟩)) 33
 have unY := As.atUnwraps (.pointer (some ⟨b, 0, none⟩)) 33
 have mU := As.methodUnwrap ⟨b, 0, none⟩
 have mA := As.methodAssignableTo
 have aE := As.assignableE
 have vE := As.valueOfE
 have f6 := As.valueOfP
 have f7 := As.typeP
 have mK := As.methodKind
 have mE := As.methodElem
 have mI := As.methodImplements
 have kP := As.kindP
 have kE := As.kindE
 have eT := As.elemT
 have iE := As.implementsE
 have n8 := As.isNilP ⟨w.heap.size, 0, none⟩ t ((w.alloc (.cells #[.pointer (some t)] 92)).alloc (.cells #[.pointer (some ⟨12, 92, none⟩), .pointer (some ⟨w.heap.size, 0, none⟩), .int .u64 150] 128)) (by simp)
 have hlt : 1 < w.heap.size := block_lt_of_cell hg
 have hg2 : ((w.alloc (.cells #[.pointer (some t)] 92)).alloc (.cells #[.pointer (some ⟨12, 92, none⟩), .pointer (some ⟨w.heap.size, 0, none⟩), .int .u64 150] 128)).cell? ⟨1, 0, none⟩ = some (.iface 160 (.agg #[.pointer (some ⟨12, 33, none⟩)])) := by
  rw [World.cell?_alloc_lt _ _ ⟨1, 0, none⟩ (by first | (simp; done) | (simp; omega)), World.cell?_alloc_lt _ _ ⟨1, 0, none⟩ hlt]; exact hg
 have htl : t.block < w.heap.size := block_lt_of_cell ht0
 have hbl : b < w.heap.size := block_lt_of_cell hc0
 have hb3 : (((w.alloc (.cells #[.pointer (some t)] 92)).alloc (.cells #[.pointer (some ⟨12, 92, none⟩), .pointer (some ⟨w.heap.size, 0, none⟩), .int .u64 150] 128)).alloc (.cells #[.pointer (some ⟨12, 92, none⟩), .pointer (some ⟨w.heap.size, 0, none⟩), .int .u64 150] 128)).cell? ⟨b, 0, none⟩ = some (.int .i64 k) := by
  rw [World.cell?_alloc_lt _ _ ⟨b, 0, none⟩ (by simp; omega), World.cell?_alloc_lt _ _ ⟨b, 0, none⟩ (by simp; omega), World.cell?_alloc_lt _ _ ⟨b, 0, none⟩ hbl]; exact hc0
 have el := As.elemV ⟨w.heap.size, 0, none⟩ t (((w.alloc (.cells #[.pointer (some t)] 92)).alloc (.cells #[.pointer (some ⟨12, 92, none⟩), .pointer (some ⟨w.heap.size, 0, none⟩), .int .u64 150] 128)).alloc (.cells #[.pointer (some ⟨12, 92, none⟩), .pointer (some ⟨w.heap.size, 0, none⟩), .int .u64 150] 128)) (by rw [World.cell?_alloc_lt _ _ ⟨w.heap.size, 0, none⟩ (by simp; omega)]; simp)
 have hct : ((((w.alloc (.cells #[.pointer (some t)] 92)).alloc (.cells #[.pointer (some ⟨12, 92, none⟩), .pointer (some ⟨w.heap.size, 0, none⟩), .int .u64 150] 128)).alloc (.cells #[.pointer (some ⟨12, 92, none⟩), .pointer (some ⟨w.heap.size, 0, none⟩), .int .u64 150] 128)).alloc (.cells #[.int .i64 k] 27)).cell? t = some old := by
  rw [World.cell?_alloc_lt _ _ t (by simp; omega), World.cell?_alloc_lt _ _ t (by simp; omega), World.cell?_alloc_lt _ _ t (by simp; omega), World.cell?_alloc_lt _ _ t htl]; exact ht0
 have st := As.setE t ⟨w.heap.size + 1 + 1 + 1, 0, none⟩ k old ((((w.alloc (.cells #[.pointer (some t)] 92)).alloc (.cells #[.pointer (some ⟨12, 92, none⟩), .pointer (some ⟨w.heap.size, 0, none⟩), .int .u64 150] 128)).alloc (.cells #[.pointer (some ⟨12, 92, none⟩), .pointer (some ⟨w.heap.size, 0, none⟩), .int .u64 150] 128)).alloc (.cells #[.int .i64 k] 27))
  (by rw [World.cell?_alloc_at _ _ _ _ (by simp)]; rfl) hct
  (by rw [World.frozen?_alloc_old _ _ t (by simp; omega), World.frozen?_alloc_old _ _ t (by simp; omega), World.frozen?_alloc_old _ _ t (by simp; omega), World.frozen?_alloc_old _ _ t (Nat.ne_of_lt htl)]; exact hf0)
 have HCT := zz hct
 clear hct
 go_enter Tryz.func41, Tryz.ntmps41
 go_wp2
 refine wp_loop_rounds 2 ?_
 rw [rounds_succ]
 go_wp2
 rw [rounds_succ]
 go_wp2
 go_ret
 refine ⟨rfl, ?_, ?_⟩
 ·exact World.cell?_setCell_same _ _ _ HCT.out
 ·exact (((((Below.refl _ _).alloc (by omega) _).alloc (by simp; omega) _).alloc (by simp; omega) _).alloc (by simp; omega) _).setCell (Nat.le_refl _) _
end Go.Proofs.YtjejcajnnbilmaaGreatDoor
namespace Go.Proofs.YtjejcajnnbilmaaGreatDoor
open Go.RowKit
theorem tell_nil (w : World) : Calls Tryz.prog 19 #[.nilIface] w fun e w' => e = .returned (.int .i64 0) /\ w = w' := by
 go_enter Tryz.func19, Tryz.ntmps19
 go_wp2
 go_ret
 exact ⟨rfl, rfl⟩
theorem ErrT.alloc {w : World} (h : ErrT w) (o : Obj) : ErrT (w.alloc o) := by
 have hlt : 1 < w.heap.size := block_lt_of_cell h
 unfold ErrT
 rw [World.cell?_alloc_lt _ _ ⟨1, 0, none⟩ hlt]; exact h
theorem ErrT.below {w w' : World} {B : Nat} (h : ErrT w) (hb : Below B w w') (hB : 1 < B) : ErrT w' := by
 unfold ErrT
 rw [hb.cell (p := ⟨1, 0, none⟩) hB]; exact h
theorem tell_errno (k : Int) (w : World) (hE : ErrT w) : Calls Tryz.prog 19 #[.iface 27 (.int .i64 k)] w fun e w' => e = .returned (.int .i64 k) /\ Below w.heap.size w w' := by
 have HE := zz (hE.alloc (.cells #[.int .i64 0] 27))
 have hlt : 1 < w.heap.size := block_lt_of_cell hE
 clear hE
 go_enter Tryz.func19, Tryz.ntmps19
 go_wp2_with fail
 refine (asErrno_any k ⟨w.heap.size, 0, none⟩ (.int .i64 0) _ HE.out (by simp) (by simp)).mono ?_
 rintro e w1 ⟨rfl, hc, hb⟩
 go_wp2_with fail
 go_ret
 exact ⟨rfl, ((Below.refl _ _).alloc (Nat.le_refl _) _).trans hb⟩
theorem tell_at (k : Int) (b : Nat) (w : World) (hE : ErrT w) (hc0 : w.cell? ⟨b, 0, none⟩ = some (.int .i64 k)) : Calls Tryz.prog 19 #[.iface 107 (.pointer (some ⟨b, 0, none⟩))] w fun e w' => e = .returned (.int .i64 k) /\ Below w.heap.size w w' := by
 have HE := zz (hE.alloc (.cells #[.int .i64 0] 27))
 have hlt : 1 < w.heap.size := block_lt_of_cell hE
 have hbl : b < w.heap.size := block_lt_of_cell hc0
 have HC : Hid ((w.alloc (.cells #[.int .i64 0] 27)).cell? ⟨b, 0, none⟩ = some (.int .i64 k)) := zz (by rw [World.cell?_alloc_lt _ _ ⟨b, 0, none⟩ hbl]; exact hc0)
 clear hE hc0
 go_enter Tryz.func19, Tryz.ntmps19
 go_wp2_with fail
 refine (asAt_any k b ⟨w.heap.size, 0, none⟩ (.int .i64 0) _ HE.out HC.out (by simp) (by simp)).mono ?_
 rintro e w1 ⟨rfl, hc, hb⟩
 go_wp2_with fail
 go_ret
 exact ⟨rfl, ((Below.refl _ _).alloc (Nat.le_refl _) _).trans hb⟩
end Go.Proofs.YtjejcajnnbilmaaGreatDoor
namespace Go.Proofs.YtjejcajnnbilmaaGreatDoor
open Go.RowKit Lx Tr
variable {w w' : World}
theorem progB_cat (x : Ex) : (⟨#[102, 117, 110, 99, 32, 102, 40, 41, 32, 123, 10, 112, 114, 105, 110, 116, 32]⟩ : ByteArray) ++ mkT (brV x) ++ ⟨#[10, 125]⟩ = mkT (progB x) := by
 show mkT headB ++ mkT (brV x) ++ mkT [10, 125] = _
 rw [mkT_app, mkT_app]
 unfold progB
 rw [List.append_assoc]
theorem br_parse {x : Ex} {d : Nat} {e : Ending} (hg : GoodB x d) (h : ParseSays w w' (mkT (progB x)) e) :
  e = .returned (.tuple #[.agg #[.slice none 0 0, .slice none 0 0], .iface 27 (.int .i64 4)]) \/ (∃ b, e = .returned (.tuple #[.agg #[.slice none 0 0, .slice none 0 0], .iface 107 (.pointer (some ⟨b, 0, none⟩))]) /\ w'.cell? ⟨b, 0, none⟩ = some (.int .i64 4)) ∨
  ∃ nm a1 a2 x' gv fv, exE x' = exE x /\ e = .returned (.tuple #[.agg #[gv, fv], .nilIface]) /\ SrcO w' w.heap.size ⟨[], [⟨nm, a1, [], 0, .cons (.mk 5 a2 [] .nil x' .nil .nil .nil) .nil⟩]⟩ gv fv /\ ExOk x' := by
 unfold ParseSays at h
 split at h
 ·exact Or.inl h
 obtain ⟨ts, h1, h2⟩ := prog_lx hg
 have hl : (mkT (progB x)).data.toList = progB x := rfl
 rw [hl, h1] at h
 simp only at h
 obtain ⟨r, hev, hr⟩ := h
 rcases prog_rd hg h2 hev with ⟨a, rfl⟩ | ⟨nm, a1, a2, x', m, e1, rfl⟩
 ·obtain ⟨xe, rfl, b, rfl, _, c0, _⟩ := hr
  exact Or.inr (Or.inl ⟨b, rfl, c0⟩)
 ·obtain ⟨gv, fv, rfl, hso⟩ := hr
  obtain ⟨t1, _⟩ := text_len h1 hev
  have t2 := t1 _ (List.mem_singleton.2 rfl)
  exact Or.inr (Or.inr ⟨nm, a1, a2, x', gv, fv, e1, rfl, hso, t2.1.2.1⟩)
theorem exV_le (x : Ex) : (exV 1 x).length <= (bareV x).length + 2 := by
 unfold exV exW
 cases x with
 | nil => exact Nat.zero_le _
 | mk c a n op nm l r zs =>
  show (if c = 5 /\ levV op < 1 then [40] ++ (bareV (.mk c a n op nm l r zs) ++ [41]) else bareV (.mk c a n op nm l r zs)).length <= _
  split
  ·simp only [List.length_append, List.length_cons, List.length_nil]; omega
  ·omega
theorem stsOk_mem : ∀ xs : Sts, StsOk xs -> ∀ x ∈ xs.toList, StOk x
 | .nil, _, x, hx => by cases hx
 | .cons y ys, h, x, hx => by
  rcases List.mem_cons.1 hx with e | e
  ·rw [e]; exact h.1
  ·exact stsOk_mem ys h.2 x e
theorem stOk_val {s : St} (h : StOk s) : ExOk s.val := by
 obtain ⟨code, a, nm, dst, v, thn, els, cs⟩ := s
 exact h.2.1
theorem fun_at {F : Nat -> Prop} {fa : Option Addr} {n c a : Nat} {l : List Fu} {g : Fu} (h : FuRow w F (.slice fa n c) l) (hg : l[a]? = some g) :
  ∃ fg bo bc, fa = some ⟨fg, 0, none⟩ /\ n = l.length /\ w.cell? ⟨fg, a * 5 + 4, none⟩ = some (.slice bo g.body.len bc) /\ g.body.len <= maxLen ∧
   ∀ k s, g.body.toList[k]? = some s -> ∃ sg vv, bo = some ⟨sg, 0, none⟩ /\ w.cell? ⟨sg, k * 8 + 4, none⟩ = some vv /\ ExIn w F vv s.val := by
 rcases h with ⟨_, e⟩ | ⟨fg, cap, e, _, _, _, _, hf⟩
 ·rw [e] at hg; cases hg
 injection e with e1 e2 e3
 obtain ⟨pv, bv, _, _, _, _, d4, _, hs1, hs2⟩ := hf a g hg
 have hform : ∃ bo bc, bv = .slice bo g.body.len bc /\ g.body.len <= maxLen := by
  rcases hs1 with ⟨e, e0⟩ | ⟨sg, cp, e, h1, h2, _⟩
  ·exact ⟨none, 0, by rw [e, e0], by rw [e0]; exact Nat.zero_le _⟩
  ·exact ⟨_, _, e, Nat.le_trans h1 h2⟩
 obtain ⟨bo, bc, rfl, hm⟩ := hform
 refine ⟨fg, bo, bc, e1, e2, d4, hm, fun k s hk => ?_⟩
 rcases hs1 with ⟨_, e0⟩ | ⟨sg, cp, e, _⟩
 ·have h1 := (List.getElem?_eq_some_iff.1 hk).1
  rw [sts_len, e0] at h1
  exact absurd h1 (Nat.not_lt_zero _)
 ·have h1 := stsIn_at g.body 0 (hs2 sg _ _ e) k s hk
  rw [Nat.zero_add] at h1
  obtain ⟨code, at_, nm, dst, v, thn, els, cs⟩ := s
  obtain ⟨tv, vv, nv, ev, cv, _, _, _, _, c4, _, _, _, _, hv, _⟩ := h1
  injection e with e5 _ _
  exact ⟨sg, vv, e5, c4, hv⟩
end Go.Proofs.YtjejcajnnbilmaaGreatDoor
