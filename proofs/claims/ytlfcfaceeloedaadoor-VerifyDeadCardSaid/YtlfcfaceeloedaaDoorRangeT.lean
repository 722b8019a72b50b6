/-
  A range over a function, step by step: what a round is, and what the statement is, where whoever walks it says himself what lies where. Of no chapter.
-/
import Derived.Test.YtlfcfaceeloedaaDoorKeeps
import Derived.RangeFuncNested
import Derived.RangeFuncBound
import Derived.RangeFuncLeaves
import Derived.WalkKit
import Derived.OwnWalkIn
namespace Go.Proofs.YtlfcfaceeloedaaDoor
open Go.RowKit
variable {F : Fence} {n m : Nat} {P : Program}

/-- The record of a loop, and the block for its rounds' deferred calls. -/
structure LoopAt (W : World) (D : Nat) (rec : LoopState → Option Code → Loop) (st : LoopState) (pe : Option Code) : Prop where
  at_ : W.heap[D + 1]? = some (.loop (rec st pe))
  coll : W.heap[D]? = some (.deferred (some []))
namespace LoopAt
variable {W W' : World} {D : Nat} {rec : LoopState → Option Code → Loop} {st st' : LoopState} {pe pe' : Option Code}
theorem keeps {S : Nat → Prop} (h : LoopAt W D rec st pe) (hk : Keeps S W W') (h0 : ¬ S D) (h1 : ¬ S (D + 1)) : LoopAt W' D rec st pe :=
  ⟨(hk.block _ (Array.getElem?_eq_some_iff.1 h.at_).1 h1).trans h.at_, (hk.block _ (Array.getElem?_eq_some_iff.1 h.coll).1 h0).trans h.coll⟩
theorem lt (h : LoopAt W D rec st pe) : D + 1 < W.heap.size := (Array.getElem?_eq_some_iff.1 h.at_).1
theorem turn (h : LoopAt W D rec st pe) (st' : LoopState) (pe' : Option Code) : LoopAt (W.putObj (D + 1) (.loop (rec st' pe'))) D rec st' pe' :=
  ⟨World.putObj_heap_same h.lt, (World.putObj_heap_other (by omega)).trans h.coll⟩
end LoopAt
theorem keeps_putObj (W : World) (l : Nat) (o : Obj) : Keeps (fun k => k = l) W (W.putObj l o) :=
  Keeps.of_grownBy (grownBy_putObj' W l o) fun k _ e => by cases e; rfl

/-- How a round may be left. -/
def roundPostT (D : Nat) (rec : LoopState → Option Code → Loop) (R : Ending → World → Prop) : Exit → Act → World → Prop
  | .normal, _, W' => LoopAt W' D rec .busy none ∧ R (.returned (.bool true)) (W'.putObj (D + 1) (.loop (rec .ready none)))
  | .ret, _, W' => LoopAt W' D rec .busy none ∧ R (.returned (.bool false)) (W'.putObj (D + 1) (.loop (rec .done (some .ret))))
  | .exit id, _, W' => LoopAt W' D rec .busy none ∧ R (.returned (.bool false)) (W'.putObj (D + 1) (.loop (rec .done (some (.exit id)))))
  | .goto t, _, W' => LoopAt W' D rec .busy none ∧ R (.returned (.bool false)) (W'.putObj (D + 1) (.loop (rec .done (some (.goto t)))))
  | .panic _, _, _ => False
  | .outgrown, _, _ => False

/-- What a loop's record holds. -/
structure RecOf (rec : LoopState → Option Code → Loop) (D : Nat) (fn : FuncId) (tmps : Array Value) (ps : Array Tmp) (assign body : Code) : Prop where
  eq : rec = fun st pe => { state := st, pending := pe, fn, tmps, params := ps, assign, body, defers := D }

/-- ONE ROUND. -/
theorem yield_round {D : Nat} {rec : LoopState → Option Code → Loop} {fn : FuncId} {tmps : Array Value} {ps : Array Tmp} {assign body : Code} (hrec : RecOf rec D fn tmps ps assign body)
    {W : World} (hl : LoopAt W D rec .ready none) (hFn : F.fn fn) {args : Array Value} (hs : args.size = ps.size) {R : Ending → World → Prop}
    (h : assign.wpIn (F.inRound (D + 1)) m P (Exit.then (fun a1 W1 => LoopAt W1 D rec .ready none ∧ body.wpIn (F.inRound (D + 1)) m P (roundPostT D rec R) a1 (W1.putObj (D + 1) (.loop (rec .busy none)))) (fun _ _ _ => False))
      { tmps := (ps.zip args).foldl (fun t (p, v) => t.setIfInBounds p v) tmps, defers := [] } W) :
    YieldAt F m P (D + 1) args W R := by
  obtain ⟨hrec⟩ := hrec
  have hy := run_yield (P := P) (args := args) hl.at_ (by rw [hrec]; exact hs)
  rw [hrec] at hy
  refine ⟨fn, _, assign, body, hy, roundIn_of_wpIn hFn (wpIn_mono h ?_)⟩
  rintro e a1 W1 hp
  cases e with
  | normal =>
    obtain ⟨hl1, hb⟩ := hp
    refine ⟨_, run_beginRound hl1.at_ (by rw [hrec]), ?_⟩
    have e1 : ({ rec .ready none with state := .busy } : Loop) = rec .busy none := by rw [hrec]
    rw [e1]
    refine wpIn_mono hb ?_
    have fin : ∀ (jump : Option Code) (W3 : World), LoopAt W3 D rec .busy none →
        (Instr.endRound (D + 1) jump).run P W3 = .ok (.bool jump.isNone) (W3.putObj (D + 1) (.loop (rec (if jump.isNone then .ready else .done) jump))) := fun jump W3 hl3 => by
      have := run_endRound (P := P) jump hl3.at_
      rw [hrec] at this ⊢
      exact this
    rintro e2 a3 W3 hp
    cases e2 with
    | normal => exact ⟨_, _, fin none W3 hp.1, hp.2⟩
    | ret => exact ⟨_, _, fin (some .ret) W3 hp.1, hp.2⟩
    | exit id => exact ⟨_, _, fin (some (.exit id)) W3 hp.1, hp.2⟩
    | goto t => exact ⟨_, _, fin (some (.goto t)) W3 hp.1, hp.2⟩
    | panic ch => exact hp.elim
    | outgrown => exact hp.elim
  | ret => exact hp.elim
  | exit id => exact hp.elim
  | goto t => exact hp.elim
  | panic ch => exact hp.elim
  | outgrown => exact hp.elim

/-- THE STATEMENT, at an outermost loop. -/
theorem wpIn_range_T {g : Operand} {ps : Array Tmp} {assign body : Code} {Q : Exit → Act → World → Prop} {a : Act} {w : World}
    (hro : F.round = none) (h1 : 1 ≤ n) {gf : Nat} {lb : Array Value} (hg : a.eval g = .func (.func gf) #[] lb) (hFg : F.fn gf) (eg : ∀ args w, (callFunc gf args).run P w = .ok (.enter gf args) w)
    (hcall : ∀ (fn : FuncId) (rec : LoopState → Option Code → Loop) (W1 : World), F.fn fn → RecOf rec w.heap.size fn a.tmps ps assign body → LoopAt W1 w.heap.size rec .ready none → Keeps (fun _ => False) w W1 → W1.heap.size = w.heap.size + 2 →
      CallsIn F (n - 1) P gf (#[.func (.yield (w.heap.size + 1)) #[] #[]] ++ lb) W1 fun e W2 => (∃ v, e = .returned v) ∧
        ((LoopAt W2 w.heap.size rec .ready none ∧ Q .normal { a with defers := { target := .collected w.heap.size, args := #[] } :: a.defers } (W2.putObj (w.heap.size + 1) (.loop (rec .exhausted none)))) ∨
         ∃ c, LoopAt W2 w.heap.size rec .done (some c) ∧ c.wpIn F n P Q { a with defers := { target := .collected w.heap.size, args := #[] } :: a.defers } (W2.putObj (w.heap.size + 1) (.loop (rec .exhausted (some c)))))) :
    (Code.rangeFunc g ps assign body).wpIn F n P Q a w := by
  refine wpIn_rangeFunc ?_
  intro fn hfn
  rw [hro]
  obtain ⟨rec, hrec⟩ : ∃ rec : LoopState → Option Code → Loop, rec = fun st pe => { state := st, pending := pe, fn, tmps := a.tmps, params := ps, assign, body, defers := w.heap.size } := ⟨_, rfl⟩
  obtain ⟨W1, hW1⟩ : ∃ W1, (w.alloc (.deferred (some []))).alloc (.loop (rec .ready none)) = W1 := ⟨_, rfl⟩
  have hL1 : LoopAt W1 w.heap.size rec .ready none := by
    constructor
    · rw [← hW1]; have := World.alloc_heap_new (w.alloc (.deferred (some []))) (.loop (rec .ready none)); rwa [World.size_alloc] at this
    · rw [← hW1]; exact (Below.heap_alloc _ _ _ (by simp)).trans (World.alloc_heap_new w _)
  refine ⟨w.heap.size + 1, [{ target := .collected w.heap.size, args := #[] }], W1, { target := .fn (.func gf) lb, args := #[.func (.yield (w.heap.size + 1)) #[] #[]] }, W1, gf,
    #[.func (.yield (w.heap.size + 1)) #[] #[]] ++ lb, W1, ?_, ?_, ?_, ?_, fun _ => h1, ?_⟩
  · rw [← hW1, hrec]; exact run_enterLoop_outer _ _ _ _ _
  · simp only [resolve, hg]
    simp [go_sem]
  · intro f' hf'; simp [Target.leads] at hf'; subst hf'; exact hFg
  · simp [invoke, go_sem, eg]
  · refine (hcall fn rec W1 hfn ⟨hrec⟩ hL1 (by rw [← hW1]; exact ((Keeps.refl _ w).alloc _).alloc _) (by rw [← hW1]; simp)).mono ?_
    rintro e W2 ⟨⟨v, rfl⟩, (⟨hl, hq⟩ | ⟨c, hl, hq⟩)⟩
    · refine ⟨none, _, ?_, hq⟩
      have := run_endLoop (P := P) hl.at_ (by rw [hrec]; simp)
      rw [hrec] at this ⊢
      exact this
    · refine ⟨some c, _, ?_, hq⟩
      have := run_endLoop (P := P) hl.at_ (by rw [hrec]; simp)
      rw [hrec] at this ⊢
      exact this
end Go.Proofs.YtlfcfaceeloedaaDoor
