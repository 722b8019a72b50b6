/-
  The plain mathematics of chapter 16: whether a program's instructions fit together. No walk.
-/
import Derived.Test.YtlfcfaceeloedaaDoorCodeM
namespace Go.Proofs.YtlfcfaceeloedaaDoor
namespace Ve
open Cd

/-- The kinds that wait; how an instruction stands. -/
abbrev Wt := List UInt8
abbrev Sd := Option Wt
/-- What is known on the way through a function. -/
structure VS where
  ahead : List Sd
  at_ : Nat
  waits : Wt
  wrong : Nat
def VS.fail (s : VS) (e : Nat) : VS := if s.wrong = 0 then { s with wrong := e } else s
def VS.take? (s : VS) : Int × VS := match s.waits.getLast? with
  | none => (0, s.fail 8)
  | some k => ((k.toNat : Int), { s with waits := s.waits.dropLast })
def VS.take1 (s : VS) (k : Int) : VS := if s.take?.1 = k then s.take?.2 else s.take?.2.fail 13
def VS.takeL (s : VS) (ks : List Int) : VS := ks.foldr (fun k s => s.take1 k) s
def VS.put (s : VS) (k : Int) : VS := if s.waits.length = 256 then s.fail 12 else { s with waits := s.waits ++ [UInt8.ofNat k.toNat] }
def caseB (op : Int) : Bool := decide (op = 24) || decide (op = 25) || decide (op = 26)
def VS.come (f : FnV) (s : VS) (n : Int) : VS :=
  if s.wrong ≠ 0 then s
  else if (f.code.length : Int) ≤ n then s.fail 2
  else if caseB (f.code.getD n.toNat (0, 0)).1 then s.fail 6
  else match s.ahead.getD n.toNat none with
    | some u => if u = s.waits then { s with ahead := s.ahead.set n.toNat (some s.waits) } else s.fail 13
    | none => if n ≤ (s.at_ : Int) then s.fail 13 else { s with ahead := s.ahead.set n.toNat (some s.waits) }
def VS.next (f : FnV) (s : VS) : VS := VS.come f (if s.at_ + 1 = f.code.length then s.fail 7 else s) ((s.at_ : Int) + 1)
def localS (f : FnV) (i : In) (s : VS) : VS :=
  if (f.locals.length : Int) ≤ i.2 then s.fail 2
  else if i.1 = 4 then s.put (f.locals.getD i.2.toNat 0) else s.take1 (f.locals.getD i.2.toNat 0)
def globalS (p : Pg) (i : In) (s : VS) : VS :=
  if p.globals ≤ i.2 then s.fail 2
  else if i.1 = 6 then s.put 1 else s.take1 1
def kindsO (op : Int) : Int × Int := if (1 ≤ op ∧ op ≤ 10) ∨ op = 17 ∨ op = 18 then (1, 1) else if 11 ≤ op ∧ op ≤ 16 then (1, 2) else if op = 19 then (2, 2) else (0, 0)
def reckonS (i : In) (s : VS) : VS := VS.put (if i.1 = 8 then s.takeL [(kindsO i.2).1, (kindsO i.2).1] else s.take1 (kindsO i.2).1) (kindsO i.2).2
def callS (p : Pg) (i : In) (s : VS) : VS :=
  if (p.fns.length : Int) ≤ i.2 then s.fail 2
  else
    let g := p.fns.getD i.2.toNat default
    let s1 := s.takeL (g.locals.take g.params.toNat)
    if i.1 = 13 ∧ g.kind ≠ 0 then s1.put g.kind else s1
def askS (op : Int) (s : VS) : VS :=
  if op = 16 then (s.take1 1).put 3
  else if op = 17 then s.takeL [3, 1]
  else if op = 18 ∨ op = 20 then (s.take1 3).put 1
  else if op = 19 then s.take1 3
  else if op = 21 ∨ op = 22 then s.take1 1
  else s
def changeS (p : Pg) (f : FnV) (i : In) (s : VS) : VS :=
  if i.1 = 1 then s.put 1
  else if i.1 = 2 then s.put 2
  else if i.1 = 3 then s.put 3
  else if i.1 = 4 ∨ i.1 = 5 then localS f i s
  else if i.1 = 6 ∨ i.1 = 7 then globalS p i s
  else if i.1 = 8 ∨ i.1 = 9 then reckonS i s
  else if i.1 = 10 then s.take?.2
  else if i.1 = 13 ∨ i.1 = 15 then callS p i s
  else askS i.1 s
def retS (f : FnV) (s : VS) : VS :=
  let s1 := if f.kind ≠ 0 then s.take1 f.kind else s
  if s1.waits ≠ [] then s1.fail 13 else s1
def caseS (c : In) (b : Bool × VS) : Bool × VS :=
  if c.1 = 24 then (b.1, b.2.takeL [3, 1])
  else if c.1 = 25 then (b.1, b.2.take1 3)
  else if c.1 = 26 then (true, if b.1 then b.2.fail 9 else b.2)
  else (b.1, b.2.fail 3)
def casesS (cs : List In) (s : VS) : VS := (cs.foldr caseS (false, s)).2
def leadOne (f : FnV) (rest : Wt) (s : VS) (c : In) : VS :=
  VS.come f (if c.1 = 25 then VS.put { s with waits := rest } 1 else { s with waits := rest }) c.2
def leadS (f : FnV) (cs : List In) (s : VS) : VS := cs.foldl (leadOne f s.waits) s
def casesOf (f : FnV) (a : Nat) (n : Int) : List In := (f.code.drop (a + 1)).take n.toNat
def chooseS (f : FnV) (n : Int) (s : VS) : VS :=
  if 6 < n then s.fail 4
  else if ((f.code.length - (s.at_ + 1) : Nat) : Int) < n then s.fail 3
  else leadS f (casesOf f s.at_ n) (casesS (casesOf f s.at_ n) s)
def insS (p : Pg) (f : FnV) (i : In) (s : VS) : VS :=
  if i.1 = 11 then VS.come f s i.2
  else if i.1 = 12 then VS.next f (VS.come f (s.take1 2) i.2)
  else if i.1 = 14 then retS f s
  else if i.1 = 23 then chooseS f i.2 s
  else if caseB i.1 then s.fail 6
  else VS.next f (changeS p f i s)
/-- One instruction, if it can be come to. -/
def stepS (p : Pg) (f : FnV) (k : Nat) (s : VS) : VS := match s.ahead.getD k none with
  | none => s
  | some u => insS p f (f.code.getD k (0, 0)) { s with at_ := k, waits := u }
/-- So many of them from the k-th one on, until something is wrong. -/
def loopS (p : Pg) (f : FnV) : Nat → Nat → VS → VS
  | 0, _, s => s
  | n + 1, k, s => if (stepS p f k s).wrong ≠ 0 then stepS p f k s else loopS p f n (k + 1) (stepS p f k s)
def startS (f : FnV) : VS := ⟨(List.replicate f.code.length none).set 0 (some []), 0, [], 0⟩
def fnS (p : Pg) (f : FnV) : VS := if f.code = [] then ⟨[], 0, [], 7⟩ else loopS p f f.code.length 0 (startS f)
/-- All functions, from the k-th one on: what is wrong first, and where; or how all stands. -/
def fnsS (p : Pg) : Nat → List FnV → Except (Nat × Int) (List (List Sd))
  | _, [] => .ok []
  | k, f :: r => if (fnS p f).wrong ≠ 0 then .error ((fnS p f).wrong, (k : Int) * 9000 + (fnS p f).at_) else match fnsS p (k + 1) r with
    | .error e => .error e
    | .ok l => .ok ((fnS p f).ahead :: l)
/-- The first function may not have parameters, nor answer anything. -/
def headB (p : Pg) : Bool := match p.fns with
  | [] => false
  | f :: _ => decide (f.params = 0) && decide (f.kind = 0)

/-! What each of them keeps. -/
def KOk (u : Wt) : Prop := u.length ≤ 256 ∧ ∀ x ∈ u, x.toNat ≤ 3
structure Grow (s s' : VS) : Prop where
  wrong : s.wrong ≠ 0 → s'.wrong = s.wrong
  at_ : s'.at_ = s.at_
  len : s'.ahead.length = s.ahead.length
  live : ∀ k u, s.ahead.getD k none = some u → s'.ahead.getD k none = some u
  new : KOk s.waits → KOk s'.waits ∧ ∀ k u, s'.ahead.getD k none = some u → s.ahead.getD k none = some u ∨ (s.at_ < k ∧ KOk u)
theorem Grow.refl (s : VS) : Grow s s := ⟨fun _ => rfl, rfl, rfl, fun _ _ h => h, fun h => ⟨h, fun _ _ h => Or.inl h⟩⟩
theorem Grow.trans {a b c : VS} (h : Grow a b) (g : Grow b c) : Grow a c :=
  ⟨fun n => by rw [g.wrong (by rw [h.wrong n]; exact n), h.wrong n], g.at_.trans h.at_, g.len.trans h.len, fun k u x => g.live k u (h.live k u x), fun hk =>
    ⟨(g.new (h.new hk).1).1, fun k u x => by
      rcases (g.new (h.new hk).1).2 k u x with y | y
      · exact (h.new hk).2 k u y
      · exact Or.inr ⟨by rw [← h.at_]; exact y.1, y.2⟩⟩⟩
theorem Grow.zero {a b : VS} (h : Grow a b) (hb : b.wrong = 0) : a.wrong = 0 := by
  apply Decidable.byContradiction
  intro n
  rw [h.wrong n] at hb
  exact n hb
theorem grow_fail (s : VS) (e : Nat) : Grow s (s.fail e) := by
  unfold VS.fail
  split
  · rename_i h
    exact ⟨fun n => absurd h n, rfl, rfl, fun _ _ h => h, fun h => ⟨h, fun _ _ h => Or.inl h⟩⟩
  · exact Grow.refl s
theorem kok_drop {u : Wt} (h : KOk u) : KOk u.dropLast := ⟨by rw [List.length_dropLast]; have := h.1; omega, fun x hx => h.2 x ((List.dropLast_sublist u).subset hx)⟩
theorem grow_any (s : VS) : Grow s s.take?.2 := by
  unfold VS.take?
  split
  · exact grow_fail s 8
  · exact ⟨fun _ => rfl, rfl, rfl, fun _ _ h => h, fun h => ⟨kok_drop h, fun _ _ h => Or.inl h⟩⟩
theorem grow_take1 (s : VS) (k : Int) : Grow s (s.take1 k) := by
  unfold VS.take1
  split
  · exact grow_any s
  · exact (grow_any s).trans (grow_fail _ _)
theorem grow_takeL (s : VS) : ∀ ks : List Int, Grow s (s.takeL ks)
  | [] => Grow.refl s
  | k :: ks => (grow_takeL s ks).trans (grow_take1 _ k)
theorem grow_put (s : VS) {k : Int} (hk : k ≤ 3) : Grow s (s.put k) := by
  unfold VS.put
  split
  · exact grow_fail s 12
  · rename_i h
    refine ⟨fun _ => rfl, rfl, rfl, fun _ _ h => h, fun g => ⟨⟨?_, ?_⟩, fun _ _ h => Or.inl h⟩⟩
    · have := g.1
      simp only [List.length_append, List.length_cons, List.length_nil]
      omega
    · intro x hx
      rcases List.mem_append.1 hx with hx | hx
      · exact g.2 x hx
      · rw [List.mem_singleton.1 hx, UInt8.toNat_ofNat']
        have : k.toNat ≤ 3 := by omega
        omega
theorem getD_set {α : Type} (l : List α) (n k : Nat) (a d : α) : (l.set n a).getD k d = if n = k ∧ n < l.length then a else l.getD k d := by
  rw [List.getD_eq_getElem?_getD, List.getElem?_set, List.getD_eq_getElem?_getD]
  by_cases h : n = k
  · subst h
    by_cases h2 : n < l.length
    · simp [h2]
    · simp [h2]
  · simp [h]
theorem grow_come (f : FnV) (s : VS) (n : Int) : Grow s (VS.come f s n) := by
  unfold VS.come
  split
  · exact Grow.refl s
  · rename_i h0
    split
    · exact grow_fail s 2
    · split
      · exact grow_fail s 6
      · split
        · rename_i u hu
          split
          · rename_i he
            subst he
            refine ⟨fun _ => rfl, rfl, by simp, fun k v hv => ?_, fun h => ⟨h, fun k v hv => ?_⟩⟩
            · dsimp only
              rw [getD_set]
              split
              · rename_i e
                rw [← e.1, hu] at hv
                exact hv
              · exact hv
            · dsimp only at hv
              rw [getD_set] at hv
              split at hv
              · rename_i e
                rw [← e.1, hu]
                exact Or.inl hv
              · exact Or.inl hv
          · exact grow_fail s 13
        · rename_i hu
          split
          · exact grow_fail s 13
          · rename_i hat
            refine ⟨fun _ => rfl, rfl, by simp, fun k v hv => ?_, fun h => ⟨h, fun k v hv => ?_⟩⟩
            · dsimp only
              rw [getD_set]
              split
              · rename_i e
                rw [← e.1, hu] at hv
                cases hv
              · exact hv
            · dsimp only at hv
              rw [getD_set] at hv
              split at hv
              · rename_i e
                cases hv
                exact Or.inr ⟨by omega, h⟩
              · exact Or.inl hv
theorem grow_next (f : FnV) (s : VS) : Grow s (VS.next f s) := by
  unfold VS.next
  refine Grow.trans ?_ (grow_come f _ _)
  split
  · exact grow_fail s 7
  · exact Grow.refl s
/-- Kinds are 1 to 3, or 0 to 3. -/
structure FnK (f : FnV) : Prop where
  kind : f.kind ≤ 3
  kinds : ∀ k ∈ f.locals, k ≤ 3
structure PgK (p : Pg) : Prop where
  each : ∀ f ∈ p.fns, FnK f
theorem fnR_k {f : FnV} (h : FnR f) : FnK f := ⟨h.kind, fun k hk => (h.kinds k hk).2⟩
theorem pgR_k {p : Pg} (h : PgR p) : PgK p := ⟨fun f hf => fnR_k (h.each f hf)⟩
theorem getD_le {l : List Int} (h : ∀ k ∈ l, k ≤ 3) (j : Nat) : l.getD j 0 ≤ 3 := by
  rw [List.getD_eq_getElem?_getD]
  cases e : l[j]? with
  | none => decide
  | some x => exact h x (List.mem_of_getElem? e)
theorem grow_local (f : FnV) (i : In) (s : VS) (hf : FnK f) : Grow s (localS f i s) := by
  unfold localS
  split
  · exact grow_fail _ _
  · split
    · exact grow_put _ (getD_le hf.kinds _)
    · exact grow_take1 _ _
theorem grow_global (p : Pg) (i : In) (s : VS) : Grow s (globalS p i s) := by
  unfold globalS
  split
  · exact grow_fail _ _
  · split
    · exact grow_put _ (by decide)
    · exact grow_take1 _ _
theorem kindsO_le (op : Int) : (kindsO op).2 ≤ 3 ∧ 0 ≤ (kindsO op).2 ∧ (kindsO op).1 ≤ 3 ∧ 0 ≤ (kindsO op).1 := by
  unfold kindsO
  split
  · decide
  · split
    · decide
    · split <;> decide
theorem grow_reckon (i : In) (s : VS) : Grow s (reckonS i s) := by
  unfold reckonS
  refine Grow.trans ?_ (grow_put _ (kindsO_le _).1)
  split
  · exact grow_takeL _ _
  · exact grow_take1 _ _
theorem getD_fnK {p : Pg} (hp : PgK p) (j : Nat) : FnK (p.fns.getD j default) := by
  rw [List.getD_eq_getElem?_getD]
  cases e : p.fns[j]? with
  | none => exact ⟨by decide, fun k hk => by cases hk⟩
  | some x => exact hp.each x (List.mem_of_getElem? e)
theorem grow_call (p : Pg) (i : In) (s : VS) (hp : PgK p) : Grow s (callS p i s) := by
  unfold callS
  split
  · exact grow_fail _ _
  · dsimp only
    split
    · exact (grow_takeL _ _).trans (grow_put _ (getD_fnK hp _).kind)
    · exact grow_takeL _ _
theorem grow_ask (op : Int) (s : VS) : Grow s (askS op s) := by
  unfold askS
  split
  · exact (grow_take1 _ _).trans (grow_put _ (by decide))
  · split
    · exact grow_takeL _ _
    · split
      · exact (grow_take1 _ _).trans (grow_put _ (by decide))
      · split
        · exact grow_take1 _ _
        · split
          · exact grow_take1 _ _
          · exact Grow.refl s
theorem grow_change (p : Pg) (f : FnV) (i : In) (s : VS) (hp : PgK p) (hf : FnK f) : Grow s (changeS p f i s) := by
  unfold changeS
  split
  · exact grow_put _ (by decide)
  split
  · exact grow_put _ (by decide)
  split
  · exact grow_put _ (by decide)
  split
  · exact grow_local f i s hf
  split
  · exact grow_global p i s
  split
  · exact grow_reckon i s
  split
  · exact grow_any s
  split
  · exact grow_call p i s hp
  · exact grow_ask _ s
theorem grow_ret (f : FnV) (s : VS) : Grow s (retS f s) := by
  have h1 : Grow s (if f.kind ≠ 0 then s.take1 f.kind else s) := by
    split
    · exact grow_take1 _ _
    · exact Grow.refl s
  show Grow s (if (if f.kind ≠ 0 then s.take1 f.kind else s).waits ≠ [] then VS.fail (if f.kind ≠ 0 then s.take1 f.kind else s) 13 else (if f.kind ≠ 0 then s.take1 f.kind else s))
  generalize (if f.kind ≠ 0 then s.take1 f.kind else s) = t at h1 ⊢
  split
  · exact h1.trans (grow_fail _ _)
  · exact h1
theorem grow_case (c : In) (b : Bool × VS) : Grow b.2 (caseS c b).2 := by
  unfold caseS
  split
  · exact grow_takeL _ _
  split
  · exact grow_take1 _ _
  split
  · dsimp only
    split
    · exact grow_fail _ _
    · exact Grow.refl _
  · exact grow_fail _ _
theorem grow_cases (s : VS) : ∀ cs : List In, Grow s (cs.foldr caseS (false, s)).2
  | [] => Grow.refl s
  | c :: cs => (grow_cases s cs).trans (grow_case c _)
theorem grow_with (s : VS) {rest : Wt} (h : KOk s.waits → KOk rest) : Grow s { s with waits := rest } := ⟨fun _ => rfl, rfl, rfl, fun _ _ h => h, fun g => ⟨h g, fun _ _ h => Or.inl h⟩⟩
theorem grow_leadOne (f : FnV) (rest : Wt) (s : VS) (c : In) (hr : KOk rest) : Grow s (leadOne f rest s c) := by
  unfold leadOne
  refine Grow.trans ?_ (grow_come f _ _)
  split
  · exact (grow_with s fun _ => hr).trans (grow_put _ (by decide))
  · exact grow_with s fun _ => hr
theorem grow_lead (f : FnV) (rest : Wt) (hr : KOk rest) : ∀ (cs : List In) (s : VS), Grow s (cs.foldl (leadOne f rest) s)
  | [], s => Grow.refl s
  | c :: cs, s => (grow_leadOne f rest s c hr).trans (grow_lead f rest hr cs _)
theorem grow_choose (f : FnV) (n : Int) (s : VS) (hw : KOk s.waits) : Grow s (chooseS f n s) := by
  unfold chooseS
  split
  · exact grow_fail _ _
  split
  · exact grow_fail _ _
  · have h1 := grow_cases s (casesOf f s.at_ n)
    exact h1.trans (grow_lead f _ (h1.new hw).1 _ _)
theorem grow_ins (p : Pg) (f : FnV) (i : In) (s : VS) (hp : PgK p) (hf : FnK f) (hw : KOk s.waits) : Grow s (insS p f i s) := by
  unfold insS
  split
  · exact grow_come _ _ _
  split
  · exact ((grow_take1 _ _).trans (grow_come _ _ _)).trans (grow_next _ _)
  split
  · exact grow_ret _ _
  split
  · exact grow_choose _ _ _ hw
  split
  · exact grow_fail _ _
  · exact (grow_change p f i s hp hf).trans (grow_next _ _)
theorem kok_nil : KOk [] := ⟨by decide, fun x h => by cases h⟩

/-! The way through a function: what holds all along. -/
/-- Ahead of the k-th instruction. -/
structure WayI (f : FnV) (k : Nat) (s : VS) : Prop where
  wrong : s.wrong = 0
  len : s.ahead.length = f.code.length
  zero : s.ahead.getD 0 none = some []
  kok : ∀ j u, s.ahead.getD j none = some u → KOk u
theorem way_start (f : FnV) (h : f.code ≠ []) : WayI f 0 (startS f) := by
  have h0 : 0 < f.code.length := List.length_pos_iff.2 h
  have hg : ∀ j u, (startS f).ahead.getD j none = some u → u = [] := fun j u hu => by
    unfold startS at hu
    dsimp only at hu
    rw [getD_set] at hu
    split at hu
    · cases hu; rfl
    · rw [List.getD_eq_getElem?_getD, List.getElem?_replicate] at hu
      split at hu <;> cases hu
  refine ⟨rfl, by simp [startS], ?_, fun j u hu => ?_⟩
  · unfold startS
    dsimp only
    rw [getD_set, if_pos ⟨rfl, by simpa using h0⟩]
  · rw [hg j u hu]; exact kok_nil
theorem grow_step {p : Pg} {f : FnV} {k : Nat} {s : VS} (hp : PgK p) (hf : FnK f) (h : WayI f k s) : (stepS p f k s = s ∧ s.ahead.getD k none = none) ∨ ∃ u, s.ahead.getD k none = some u ∧ stepS p f k s = insS p f (f.code.getD k (0, 0)) { s with at_ := k, waits := u } ∧ Grow { s with at_ := k, waits := u } (stepS p f k s) := by
  unfold stepS
  split
  · rename_i e
    exact Or.inl ⟨rfl, e⟩
  · rename_i u e
    exact Or.inr ⟨u, e, rfl, grow_ins p f _ _ hp hf (h.kok k u e)⟩
theorem way_step {p : Pg} {f : FnV} {k : Nat} {s : VS} (hp : PgK p) (hf : FnK f) (h : WayI f k s) (h0 : (stepS p f k s).wrong = 0) : WayI f (k + 1) (stepS p f k s) := by
  rcases grow_step hp hf h with ⟨e, _⟩ | ⟨u, e, _, g⟩
  · rw [e]; exact ⟨h.wrong, h.len, h.zero, h.kok⟩
  · refine ⟨h0, g.len.trans h.len, g.live _ _ h.zero, fun j v hv => ?_⟩
    rcases (g.new (h.kok k u e)).2 j v hv with x | x
    · exact h.kok j v x
    · exact x.2
/-- What a step leaves as it is. -/
theorem step_live {p : Pg} {f : FnV} {k : Nat} {s : VS} (hp : PgK p) (hf : FnK f) (h : WayI f k s) {j : Nat} {u : Wt} (hj : s.ahead.getD j none = some u) : (stepS p f k s).ahead.getD j none = some u := by
  rcases grow_step hp hf h with ⟨e, _⟩ | ⟨v, e, _, g⟩
  · rw [e]; exact hj
  · exact g.live _ _ hj
theorem step_old {p : Pg} {f : FnV} {k : Nat} {s : VS} (hp : PgK p) (hf : FnK f) (h : WayI f k s) {j : Nat} {u : Wt} (hj : (stepS p f k s).ahead.getD j none = some u) (hk : j ≤ k) : s.ahead.getD j none = some u := by
  rcases grow_step hp hf h with ⟨e, _⟩ | ⟨v, e, _, g⟩
  · rw [e] at hj; exact hj
  · rcases (g.new (h.kok k v e)).2 j u hj with x | x
    · exact x
    · have := x.1; dsimp only at this; omega
theorem loop_live {p : Pg} {f : FnV} (hp : PgK p) (hf : FnK f) : ∀ (n k : Nat) (s : VS), WayI f k s → (loopS p f n k s).wrong = 0 →
    WayI f (k + n) (loopS p f n k s) ∧ (∀ j u, s.ahead.getD j none = some u → (loopS p f n k s).ahead.getD j none = some u) ∧ (∀ j u, j < k → (loopS p f n k s).ahead.getD j none = some u → s.ahead.getD j none = some u)
  | 0, k, s, h, h0 => ⟨h, fun _ _ h => h, fun _ _ _ h => h⟩
  | n + 1, k, s, h, h0 => by
    unfold loopS at h0 ⊢
    split
    · rename_i e
      rw [if_pos e] at h0
      exact absurd h0 e
    · rename_i e
      rw [if_neg e] at h0
      have e0 : (stepS p f k s).wrong = 0 := by omega
      obtain ⟨h1, h2, h3⟩ := loop_live hp hf n (k + 1) _ (way_step hp hf h e0) h0
      refine ⟨by rw [show k + (n + 1) = k + 1 + n by omega]; exact h1, fun j u hj => h2 j u (step_live hp hf h hj), fun j u hj hu => ?_⟩
      exact step_old hp hf h (h3 j u (by omega) hu) (by omega)
/-- What holds of each instruction, holds of each that can be come to. -/
theorem loop_each {p : Pg} {f : FnV} (hp : PgK p) (hf : FnK f) : ∀ (n k : Nat) (s : VS), WayI f k s → (loopS p f n k s).wrong = 0 →
    ∀ j u, k ≤ j → j < k + n → (loopS p f n k s).ahead.getD j none = some u → ∃ t, WayI f j t ∧ t.ahead.getD j none = some u ∧ (stepS p f j t).wrong = 0 ∧ stepS p f j t = insS p f (f.code.getD j (0, 0)) { t with at_ := j, waits := u }
  | 0, k, s, h, h0, j, u, h1, h2, _ => by omega
  | n + 1, k, s, h, h0, j, u, h1, h2, hu => by
    unfold loopS at h0 hu
    split at h0
    · rename_i e
      exact absurd h0 e
    · rename_i e
      rw [if_neg e] at hu
      have e0 : (stepS p f k s).wrong = 0 := by omega
      have hw := way_step hp hf h e0
      by_cases hjk : j = k
      · subst hjk
        have hu2 := step_old hp hf h ((loop_live hp hf n (j + 1) _ hw h0).2.2 j u (by omega) hu) (Nat.le_refl _)
        rcases grow_step hp hf h with ⟨_, e⟩ | ⟨v, e1, e2, _⟩
        · rw [e] at hu2; cases hu2
        · rw [hu2] at e1
          cases e1
          exact ⟨s, h, hu2, e0, e2⟩
      · exact loop_each hp hf n (k + 1) _ hw h0 j u (by omega) (by omega) hu

/-! What a right function's shapes are. -/
theorem fail_ne (s : VS) {e : Nat} (he : e ≠ 0) : (s.fail e).wrong ≠ 0 := by
  unfold VS.fail
  split
  · exact he
  · assumption
theorem take1_ok {s : VS} {k : Int} (h : (s.take1 k).wrong = 0) : ∃ u x, s.waits = u ++ [x] ∧ (x.toNat : Int) = k ∧ (s.take1 k).waits = u := by
  unfold VS.take1 at h ⊢
  split at h
  · rename_i e
    rw [if_pos e]
    unfold VS.take? at e h ⊢
    split at h
    · exact absurd h (fail_ne _ (by decide))
    · rename_i x hx
      rw [hx] at e
      obtain ⟨ys, hy⟩ := List.getLast?_eq_some_iff.1 hx
      exact ⟨ys, x, hy, e, by dsimp only; rw [hy, List.dropLast_concat]⟩
  · exact absurd h (fail_ne _ (by decide))
theorem ret_ok {f : FnV} {s : VS} (h : (retS f s).wrong = 0) : (f.kind = 0 → s.waits = []) ∧ (f.kind ≠ 0 → ∃ x, s.waits = [x] ∧ (x.toNat : Int) = f.kind) := by
  by_cases hk : f.kind = 0
  · unfold retS at h
    dsimp only at h
    rw [if_neg (show ¬ f.kind ≠ 0 from fun g => g hk)] at h
    refine ⟨fun _ => ?_, fun g => absurd hk g⟩
    apply Decidable.byContradiction
    intro hw
    rw [if_pos hw] at h
    exact fail_ne _ (by decide) h
  · unfold retS at h
    dsimp only at h
    rw [if_pos hk] at h
    refine ⟨fun g => absurd g hk, fun _ => ?_⟩
    by_cases hw : (s.take1 f.kind).waits = []
    · rw [if_neg (fun g => g hw)] at h
      obtain ⟨u, x, h1, h2, h3⟩ := take1_ok h
      rw [hw] at h3
      subst h3
      exact ⟨x, h1, h2⟩
    · rw [if_pos hw] at h
      exact absurd h (fail_ne _ (by decide))
/-- VerifyBounds, of one function. -/
structure FnB (f : FnV) (l : List Sd) : Prop where
  len : l.length = f.code.length
  pos : f.code ≠ []
  zero : l.getD 0 none = some []
  kok : ∀ j u, l.getD j none = some u → KOk u
  ret : ∀ j u, l.getD j none = some u → (f.code.getD j (0, 0)).1 = 14 → (f.kind = 0 → u = []) ∧ (f.kind ≠ 0 → ∃ x, u = [x] ∧ (x.toNat : Int) = f.kind)
theorem fn_bounds {p : Pg} {f : FnV} (hp : PgK p) (hf : FnK f) (h : (fnS p f).wrong = 0) : FnB f (fnS p f).ahead := by
  unfold fnS at h ⊢
  split at h
  · cases h
  · rename_i hc
    rw [if_neg hc]
    have hs := way_start f hc
    obtain ⟨h1, h2, h3⟩ := loop_live hp hf _ _ _ hs h
    refine ⟨h1.len, hc, h1.zero, h1.kok, fun j u hj hop => ?_⟩
    have hlt : j < f.code.length := by
      rw [← h1.len]
      apply Nat.lt_of_not_le
      intro hge
      rw [List.getD_eq_getElem?_getD, List.getElem?_eq_none hge] at hj
      cases hj
    obtain ⟨t, _, _, e1, e2⟩ := loop_each hp hf _ _ _ hs h j u (Nat.zero_le _) (by omega) hj
    rw [e2] at e1
    unfold insS at e1
    rw [if_neg (by omega), if_neg (by omega), if_pos hop] at e1
    exact ret_ok e1
theorem fns_ok {p : Pg} : ∀ {r : List FnV} {k : Nat} {l : List (List Sd)}, fnsS p k r = .ok l → l.length = r.length ∧ ∀ (j : Nat) (f : FnV), r[j]? = some f → (fnS p f).wrong = 0 ∧ l[j]? = some (fnS p f).ahead
  | [], k, l, h => by cases h; exact ⟨rfl, fun j f hj => by simp at hj⟩
  | g :: r, k, l, h => by
    unfold fnsS at h
    split at h
    · cases h
    · rename_i e
      split at h
      · cases h
      · rename_i l' e'
        cases h
        obtain ⟨h1, h2⟩ := fns_ok e'
        refine ⟨by simp [h1], fun j f hj => ?_⟩
        cases j with
        | zero => simp at hj; subst hj; exact ⟨by omega, rfl⟩
        | succ j => simpa using h2 j f (by simpa using hj)
theorem ok_fns {p : Pg} : ∀ {r : List FnV} {k : Nat}, (∀ f ∈ r, (fnS p f).wrong = 0) → fnsS p k r = .ok (r.map fun f => (fnS p f).ahead)
  | [], k, h => rfl
  | g :: r, k, h => by
    unfold fnsS
    rw [if_neg (by have := h g List.mem_cons_self; omega), ok_fns (r := r) (k := k + 1) fun f hf => h f (List.mem_cons_of_mem _ hf)]
    rfl
end Ve
end Go.Proofs.YtlfcfaceeloedaaDoor
