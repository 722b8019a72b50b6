/-
  The plain mathematics of chapter 14: programs of instructions, as bytes. No walk.
-/
import Derived.Test.YtlfcfaceeloedaaDoorWireM2
namespace Go.Proofs.YtlfcfaceeloedaaDoor
namespace Cd

/-- An instruction: its op, its number. -/
abbrev In := Int × Int
structure FnV where
  params : Int
  locals : List Int
  kind : Int
  code : List In
structure Pg where
  globals : Int
  fns : List FnV
instance : Inhabited FnV := ⟨⟨0, [], 0, []⟩⟩
instance : Inhabited Pg := ⟨⟨0, []⟩⟩

/-- Those whose number is 0 or more. -/
def manyB (op : Int) : Bool := decide (op = 4) || decide (op = 5) || decide (op = 6) || decide (op = 7) || decide (op = 11) || decide (op = 12) || decide (op = 13) || decide (op = 15) || decide (op = 23) || decide (op = 24) || decide (op = 25) || decide (op = 26)
/-- From where to where an instruction's number may be. -/
def leastI (op : Int) : Int := if op = 1 then -9223372036854775808 else if op = 8 then 1 else if op = 9 then 17 else 0
def mostI (op : Int) : Int := if op = 1 then 9223372036854775807 else if op = 2 then 1 else if op = 8 then 16 else if op = 9 then 19 else if manyB op then 9223372036854775807 else 0
def hasN (op : Int) : Bool := decide (leastI op < 0) || decide (0 < mostI op)
def mayB (i : In) : Bool := decide (1 ≤ i.1) && decide (i.1 ≤ 26) && decide (leastI i.1 ≤ i.2) && decide (i.2 ≤ mostI i.1)
def kindB (k : Int) : Bool := decide (1 ≤ k) && decide (k ≤ 3)
/-- What is wrong with a function. -/
def fnE (f : FnV) : Nat :=
  if 12 < f.locals.length ∨ 9000 < f.code.length then 4
  else if f.params < 0 ∨ (f.locals.length : Int) < f.params ∨ f.kind < 0 ∨ 3 < f.kind then 2
  else if f.locals.all kindB then (if f.code.all mayB then 0 else 1) else 2
def fnsE : List FnV → Nat
  | [] => 0
  | f :: r => if fnE f = 0 then fnsE r else fnE f
def progE (p : Pg) : Nat := if p.globals < 0 ∨ 8 < p.globals then 2 else if 12 < p.fns.length then 4 else fnsE p.fns
/-- What a right function is. -/
structure FnR (f : FnV) : Prop where
  locals : f.locals.length ≤ 12
  code : f.code.length ≤ 9000
  params0 : 0 ≤ f.params
  params : f.params ≤ (f.locals.length : Int)
  kind0 : 0 ≤ f.kind
  kind : f.kind ≤ 3
  kinds : ∀ k ∈ f.locals, 1 ≤ k ∧ k ≤ 3
  ins : ∀ i ∈ f.code, mayB i = true
theorem fnE_iff (f : FnV) : fnE f = 0 ↔ FnR f := by
  constructor
  · intro h
    unfold fnE at h
    split at h
    · cases h
    · rename_i h1
      split at h
      · cases h
      · rename_i h2
        split at h
        · rename_i h3
          split at h
          · rename_i h4
            exact ⟨by omega, by omega, by omega, by omega, by omega, by omega, fun k hk => by simpa [kindB] using List.all_eq_true.1 h3 k hk, List.all_eq_true.1 h4⟩
          · cases h
        · cases h
  · intro h
    have a := h.locals
    have b := h.code
    have c := h.params0
    have d := h.params
    have e := h.kind0
    have g := h.kind
    unfold fnE
    rw [if_neg (by omega), if_neg (by omega), if_pos (List.all_eq_true.2 fun k hk => by simpa [kindB] using h.kinds k hk), if_pos (List.all_eq_true.2 h.ins)]
theorem fnsE_iff : ∀ (l : List FnV), fnsE l = 0 ↔ ∀ f ∈ l, FnR f
  | [] => ⟨fun _ f h => (by cases h), fun _ => rfl⟩
  | f :: r => by
    unfold fnsE
    constructor
    · intro h
      split at h
      · rename_i h0
        intro g hg
        rcases List.mem_cons.1 hg with rfl | hg
        · exact (fnE_iff _).1 h0
        · exact (fnsE_iff r).1 h g hg
      · rename_i h0
        exact absurd h h0
    · intro h
      rw [if_pos ((fnE_iff f).2 (h f List.mem_cons_self)), fnsE_iff r]
      exact fun g hg => h g (List.mem_cons_of_mem _ hg)
structure PgR (p : Pg) : Prop where
  globals0 : 0 ≤ p.globals
  globals : p.globals ≤ 8
  fns : p.fns.length ≤ 12
  each : ∀ f ∈ p.fns, FnR f
theorem progE_iff (p : Pg) : progE p = 0 ↔ PgR p := by
  unfold progE
  constructor
  · intro h
    split at h
    · cases h
    · split at h
      · cases h
      · exact ⟨by omega, by omega, by omega, (fnsE_iff _).1 h⟩
  · intro h
    have a := h.globals0
    have b := h.globals
    have c := h.fns
    rw [if_neg (by omega), if_neg (by omega)]
    exact (fnsE_iff _).2 h.each
theorem mayB_op {i : In} (h : mayB i = true) : 1 ≤ i.1 ∧ i.1 ≤ 26 := by
  simp [mayB] at h; omega
theorem mayB_n {i : In} (h : mayB i = true) : -9223372036854775808 ≤ i.2 ∧ i.2 ≤ 9223372036854775807 := by
  simp [mayB] at h
  have h1 : -9223372036854775808 ≤ leastI i.1 := by unfold leastI; split; omega; split; omega; split <;> omega
  have h2 : mostI i.1 ≤ 9223372036854775807 := by unfold mostI; split; omega; split; omega; split; omega; split; omega; split <;> omega
  omega
theorem mayB_zero {i : In} (h : mayB i = true) (hn : hasN i.1 = false) : i.2 = 0 := by
  simp [mayB] at h
  simp [hasN] at hn
  omega

/-! The bytes. -/
def insL (i : In) : List Nat := i.1.toNat :: (if hasN i.1 then Vy.enc (zz i.2) else [])
def kindsL (l : List Int) : List Nat := l.map Int.toNat
def fnL (f : FnV) : List Nat := Vy.enc f.params.toNat ++ Vy.enc f.locals.length ++ kindsL f.locals ++ [f.kind.toNat] ++ Vy.enc f.code.length ++ f.code.flatMap insL
def fnParts : Nat → List FnV → List WPart
  | _, [] => []
  | k, f :: r => (98 + k, txt (fnL f)) :: fnParts (k + 1) r
def partsC (p : Pg) : List WPart := (97, txt (Vy.enc p.globals.toNat)) :: fnParts 0 p.fns

/-! The reader. -/
/-- The number that a list of bytes begins with. -/
def rd (l : List Nat) : Option Nat := (List.range 10).findSome? fun k => if Vy.val (l.take (k + 1)) < 2 ^ 64 ∧ (Vy.enc (Vy.val (l.take (k + 1)))).isPrefixOf l then some (Vy.val (l.take (k + 1))) else none
theorem rd_some {l : List Nat} {n : Nat} (h : rd l = some n) : Reads l n := by
  obtain ⟨k, _, hk⟩ := List.exists_of_findSome?_eq_some h
  split at hk
  · rename_i hc
    cases hk
    exact ⟨hc.1, List.isPrefixOf_iff_prefix.1 hc.2⟩
  · cases hk
theorem rd_of {l : List Nat} {n : Nat} (h : Reads l n) : rd l = some n := by
  cases hr : rd l with
  | some m => rw [Reads.det (rd_some hr) h]
  | none =>
    exfalso
    have hn := List.findSome?_eq_none_iff.1 hr ((Vy.enc n).length - 1) (by
      have := h.len
      rw [List.mem_range]; omega)
    have hl := h.len
    have hp : l.take ((Vy.enc n).length - 1 + 1) = Vy.enc n := by
      rw [show (Vy.enc n).length - 1 + 1 = (Vy.enc n).length by omega]
      exact (List.prefix_iff_eq_take.1 h.2).symm
    rw [hp, Vy.val_enc, if_pos ⟨h.1, List.isPrefixOf_iff_prefix.2 h.2⟩] at hn
    cases hn
theorem rd_none {l : List Nat} (h : rd l = none) : ∀ n, ¬ Reads l n := fun n hn => by rw [rd_of hn] at h; cases h
theorem RN.rd_some {l : List Nat} {n : Nat} (h : rd l = some n) (a : Nat) : RN l a n (a + (Vy.enc n).length) 0 := Or.inl ⟨Cd.rd_some h, rfl, rfl⟩
theorem RN.rd_none {l : List Nat} (h : rd l = none) (a : Nat) : RN l a 0 0 3 := Or.inr ⟨Cd.rd_none h, rfl, rfl, rfl⟩
theorem rd_enc {n : Nat} (hn : n < 2 ^ 64) (r : List Nat) : rd (Vy.enc n ++ r) = some n := rd_of ⟨hn, List.prefix_append _ _⟩

/-- Where a reader stands, and what was wrong first. -/
structure Rd where
  at_ : Nat
  err : Nat
deriving DecidableEq
def Rd.wrong (r : Rd) (e : Nat) : Rd := ⟨r.at_, if r.err = 0 then e else r.err⟩
/-- A number, and where the reader stands behind it. -/
def rdCount (s : List Nat) (most : Nat) (r : Rd) : Nat × Rd :=
  match rd (s.drop r.at_) with
  | none => (0, r.wrong 3)
  | some n => if most < n then (0, r.wrong 4) else if r.err = 0 then (n, ⟨r.at_ + (Vy.enc n).length, 0⟩) else (0, r)
def rdNumber (s : List Nat) (r : Rd) : Int × Rd :=
  match rd (s.drop r.at_) with
  | none => (0, r.wrong 3)
  | some n => if r.err = 0 then (uz n, ⟨r.at_ + (Vy.enc n).length, 0⟩) else (0, r)
def rdByte (s : List Nat) (r : Rd) : Nat × Rd :=
  if r.at_ = s.length then (0, r.wrong 3) else if r.err = 0 then (s.getD r.at_ 0, ⟨r.at_ + 1, 0⟩) else (0, r)
def rdIns (s : List Nat) (r : Rd) : In × Rd :=
  if hasN ((rdByte s r).1 : Int) then ((((rdByte s r).1 : Int), (rdNumber s (rdByte s r).2).1), (rdNumber s (rdByte s r).2).2) else ((((rdByte s r).1 : Int), 0), (rdByte s r).2)
def rdBytes (s : List Nat) : Nat → Rd → List Int × Rd
  | 0, r => ([], r)
  | n + 1, r => (((rdByte s r).1 : Int) :: (rdBytes s n (rdByte s r).2).1, (rdBytes s n (rdByte s r).2).2)
def rdInss (s : List Nat) : Nat → Rd → List In × Rd
  | 0, r => ([], r)
  | n + 1, r => ((rdIns s r).1 :: (rdInss s n (rdIns s r).2).1, (rdInss s n (rdIns s r).2).2)
def rdEnd (s : List Nat) (r : Rd) : Nat := (if r.at_ = s.length then r else r.wrong 3).err
/-- A function, step by step. -/
def rdFn1 (s : List Nat) : Nat × Rd := rdCount s 12 ⟨0, 0⟩
def rdFn2 (s : List Nat) : Nat × Rd := rdCount s 12 (rdFn1 s).2
def rdFn3 (s : List Nat) : List Int × Rd := rdBytes s (rdFn2 s).1 (rdFn2 s).2
def rdFn4 (s : List Nat) : Nat × Rd := rdByte s (rdFn3 s).2
def rdFn5 (s : List Nat) : Nat × Rd := rdCount s 9000 (rdFn4 s).2
def rdFn6 (s : List Nat) : List In × Rd := rdInss s (rdFn5 s).1 (rdFn5 s).2
def rdFnV (s : List Nat) : FnV := ⟨((rdFn1 s).1 : Int), (rdFn3 s).1, ((rdFn4 s).1 : Int), (rdFn6 s).1⟩
def rdFnE (s : List Nat) : Nat := rdEnd s (rdFn6 s).2
def rdFns : Nat → List WPart → List FnV × Nat
  | _, [] => ([], 0)
  | k, p :: r => if p.1 = (98 + k) % 256 then (if rdFnE (bs p.2) = 0 then (rdFnV (bs p.2) :: (rdFns (k + 1) r).1, (rdFns (k + 1) r).2) else ([rdFnV (bs p.2)], rdFnE (bs p.2))) else ([], 3)
def rdHead (s : List Nat) : Nat × Nat := ((rdCount s 8 ⟨0, 0⟩).1, rdEnd s (rdCount s 8 ⟨0, 0⟩).2)
def rdParts (first : WPart) (rest : List WPart) : Pg × Nat :=
  if (rdHead (bs first.2)).2 = 0 then (⟨((rdHead (bs first.2)).1 : Int), (rdFns 0 rest).1⟩, (rdFns 0 rest).2) else (⟨((rdHead (bs first.2)).1 : Int), []⟩, (rdHead (bs first.2)).2)
/-- What is told of a text whose kind, parts and error are these. -/
def decE (re k : Nat) (ps : List WPart) : Nat :=
  if re = 0 then
    match ps with
    | [] => 3
    | first :: rest => if k = 80 ∧ first.1 = 97 then (if 12 < rest.length then 4 else if (rdParts first rest).2 = 0 then progE (rdParts first rest).1 else (rdParts first rest).2) else 3
  else re
def decV (re k : Nat) (ps : List WPart) : Pg :=
  if decE re k ps = 0 then
    match ps with
    | [] => ⟨0, []⟩
    | first :: rest => (rdParts first rest).1
  else ⟨0, []⟩
end Cd
end Go.Proofs.YtlfcfaceeloedaaDoor
