/-
  Texts of one proof, in build order: Plain mathematics: channels, and tasks that wait at them. No program. | Plain mathematics: a task that waits, and channels that are shut. No program. | Plain mathematics: what comes of talks is as it may be. No program. | Plain mathematics: a channel is shut; those that wait go on, in their order. No program. | Plain mathematics: channels told by one list of all that wait. No program. | Plain mathematics: a channel is shut, told by one list of all that wait. No program.
-/
namespace Go.Proofs.YtppbmhpbbiigaaaDoor
namespace Pp

structure Tk where
  what : Int
  chan : Int
  n : Int
structure Ch where
  size : Nat
  nums : List Int
  shut : Bool
  sends : List (Int × Nat)
  recvs : List (Int × Nat)
structure St where
  chs : List Ch
  asks : Int → Option (List Tk)
/-- A task that goes on: which one, at which case, with what. -/
structure Wk where
  task : Int
  case : Nat
  n : Int

def zero : St := ⟨[], fun _ => none⟩
def newCh (n : Nat) : Ch := ⟨n, [], false, [], []⟩
def Ch.free (c : Ch) (what : Int) : Bool := c.shut || (if what = 3 then (decide (0 < c.recvs.length) || decide (c.nums.length < c.size)) else (decide (0 < c.nums.length) || decide (0 < c.sends.length)))
def may (m : Nat) (c : Int) : Bool := decide (0 ≤ c) && decide (c ≤ (m : Int))
/-- The channel of a number. -/
def chan (chs : List Ch) (c : Int) : Option Ch := if c = 0 then none else chs[(c - 1).toNat]?
/-- Which one is an Else, and what is wrong first. -/
def other (m : Nat) : List Tk → Nat → Int → Int × Int
  | [], _, o => (o, 0)
  | t :: l, k, o =>
    if t.what = 40 then (if 0 ≤ o then (-1, 9) else other m l (k + 1) (k : Int))
    else if t.what ≠ 3 ∧ t.what ≠ 10 then (-1, 1)
    else if may m t.chan = false then (-1, 2) else other m l (k + 1) o
def isFree (chs : List Ch) (t : Tk) : Bool := decide (t.what ≠ 40) && (match chan chs t.chan with | none => false | some c => c.free t.what)
def frees (chs : List Ch) : List Tk → Nat → List Nat
  | [], _ => []
  | t :: l, k => if isFree chs t then k :: frees chs l (k + 1) else frees chs l (k + 1)
def drawn (draw : Int) (many : Nat) : Nat := (draw % (many : Int)).toNat
def off (task : Int) (r : List (Int × Nat)) : List (Int × Nat) := r.filter fun w => decide (w.1 ≠ task)
def Ch.strike (task what : Int) (c : Ch) : Ch := if what = 3 then { c with sends := off task c.sends } else { c with recvs := off task c.recvs }
def strikeAt (task : Int) (chs : List Ch) (t : Tk) : List Ch := if t.chan = 0 then chs else chs.modify (t.chan - 1).toNat (Ch.strike task t.what)
def strike (task : Int) (l : List Tk) (chs : List Ch) : List Ch := l.foldl (strikeAt task) chs
def wake (s : St) (task : Int) : St := ⟨strike task ((s.asks task).getD []) s.chs, fun x => if x = task then none else s.asks x⟩
def setNums (s : St) (k : Nat) (nums : List Int) : St := ⟨s.chs.modify k fun c => { c with nums := nums }, s.asks⟩
/-- What comes of a send, and of a receive, at the channel in the k-th place. -/
structure Got where
  st : St
  n : Int
  wakes : List Wk
  err : Int
def send (s : St) (k : Nat) (c : Ch) (n : Int) : Got :=
  if c.shut then ⟨s, 0, [], 13⟩
  else match c.recvs with
    | w :: _ => ⟨wake s w.1, 0, [⟨w.1, w.2, n⟩], 0⟩
    | [] => if c.nums.length = c.size then ⟨s, 0, [], 12⟩ else ⟨setNums s k (c.nums ++ [n]), 0, [], 0⟩
def sent (s : St) (w : Int × Nat) : Int := ((((s.asks w.1).getD [])[w.2]?).map Tk.n).getD 0
def recv (s : St) (k : Nat) (c : Ch) : Got :=
  match c.nums, c.sends with
  | [], [] => ⟨s, 0, [], 0⟩
  | [], w :: _ => ⟨wake s w.1, sent s w, [⟨w.1, w.2, 0⟩], 0⟩
  | x :: r, [] => ⟨setNums s k r, x, [], 0⟩
  | x :: r, w :: _ => ⟨setNums (wake (setNums s k r) w.1) k (r ++ [sent s w]), x, [⟨w.1, w.2, 0⟩], 0⟩
def doT (s : St) (t : Tk) : Got :=
  match s.chs[(t.chan - 1).toNat]? with
  | none => ⟨s, 0, [], 0⟩
  | some c => if t.what = 10 then recv s (t.chan - 1).toNat c else send s (t.chan - 1).toNat c t.n
def Ch.lay (task what : Int) (k : Nat) (c : Ch) : Ch := if what = 3 then { c with sends := c.sends ++ [(task, k)] } else { c with recvs := c.recvs ++ [(task, k)] }
def layAt (task : Int) (chs : List Ch) (t : Tk) (k : Nat) : List Ch := if t.chan = 0 then chs else chs.modify (t.chan - 1).toNat (Ch.lay task t.what k)
def lay (task : Int) : List Ch → List Tk → Nat → List Ch
  | chs, [], _ => chs
  | chs, t :: l, k => lay task (layAt task chs t k) l (k + 1)
def wait (s : St) (task : Int) (l : List Tk) : St := ⟨lay task s.chs l 0, fun x => if x = task then some l else s.asks x⟩
/-- What comes of a talk. -/
structure Told where
  st : St
  case : Int
  n : Int
  wakes : List Wk
  waits : Bool
  err : Int
def talk (s : St) (task : Int) (l : List Tk) (draw : Int) : Told :=
  if (s.asks task).isSome then ⟨s, 0, 0, [], false, 6⟩
  else if 6 < l.length then ⟨s, 0, 0, [], false, 4⟩
  else if (other s.chs.length l 0 (-1)).2 ≠ 0 then ⟨s, 0, 0, [], false, (other s.chs.length l 0 (-1)).2⟩
  else if 0 < (frees s.chs l 0).length then
    let k := (frees s.chs l 0).getD (drawn draw (frees s.chs l 0).length) 0
    let g := doT s (l.getD k ⟨0, 0, 0⟩)
    if g.err ≠ 0 then ⟨g.st, 0, 0, [], false, g.err⟩ else ⟨g.st, (k : Nat), g.n, g.wakes, false, 0⟩
  else if 0 ≤ (other s.chs.length l 0 (-1)).1 then ⟨s, (other s.chs.length l 0 (-1)).1, 0, [], false, 0⟩
  else ⟨wait s task l, 0, 0, [], true, 0⟩
/-- Those of a row that go on, each once. -/
def wakeAll : St → List (Int × Nat) → St × List Wk
  | s, [] => (s, [])
  | s, w :: r => if (s.asks w.1).isSome then ((wakeAll (wake s w.1) r).1, ⟨w.1, w.2, 0⟩ :: (wakeAll (wake s w.1) r).2) else wakeAll s r
def close (s : St) (c : Int) : Got :=
  if may s.chs.length c = false then ⟨s, 0, [], 2⟩
  else match chan s.chs c with
    | none => ⟨s, 0, [], 1⟩
    | some x => if x.shut then ⟨s, 0, [], 1⟩ else if 0 < x.sends.length then ⟨s, 0, [], 13⟩
      else
        let r := wakeAll ⟨s.chs.modify (c - 1).toNat fun c => { c with shut := true, recvs := [] }, s.asks⟩ x.recvs
        ⟨r.1, 0, r.2, 0⟩

/-- What holds of all that waits. -/
structure Ok (s : St) : Prop where
  talks : ∀ t l, s.asks t = some l → l.length ≤ 6 ∧ ∀ x ∈ l, (0 ≤ x.chan ∧ x.chan ≤ s.chs.length) ∧ (x.what = 3 ∨ x.what = 10)
  sends : ∀ (k : Nat) c, s.chs[k]? = some c → ∀ w ∈ c.sends, ∃ l x, s.asks w.1 = some l ∧ l[w.2]? = some x ∧ x.what = 3 ∧ x.chan = (k : Int) + 1
  recvs : ∀ (k : Nat) c, s.chs[k]? = some c → ∀ w ∈ c.recvs, ∃ l x, s.asks w.1 = some l ∧ l[w.2]? = some x ∧ x.what = 10 ∧ x.chan = (k : Int) + 1
  caps : ∀ (k : Nat) c, s.chs[k]? = some c → c.size ≤ 8 ∧ c.nums.length ≤ c.size
  many : s.chs.length ≤ 32
theorem Ok.zero : Ok zero := ⟨fun _ _ h => (by cases h), fun _ _ h => (by cases h), fun _ _ h => (by cases h), fun _ _ h => (by cases h), Nat.zero_le _⟩

theorem strikeAt_len (task : Int) (chs : List Ch) (t : Tk) : (strikeAt task chs t).length = chs.length := by unfold strikeAt; split <;> simp
theorem strike_len (task : Int) (l : List Tk) (chs : List Ch) : (strike task l chs).length = chs.length := by
  unfold strike
  induction l generalizing chs with
  | nil => rfl
  | cons t l ih => rw [List.foldl_cons, ih, strikeAt_len]
/-- What a channel keeps of its rows. -/
structure Less (task : Int) (l : List Tk) (k : Nat) (c c' : Ch) : Prop where
  size : c'.size = c.size
  nums : c'.nums = c.nums
  shut : c'.shut = c.shut
  sends : c'.sends = c.sends ∨ c'.sends = off task c.sends
  recvs : c'.recvs = c.recvs ∨ c'.recvs = off task c.recvs
  sends' : (∃ x ∈ l, x.what = 3 ∧ x.chan = (k : Int) + 1) → c'.sends = off task c.sends
  recvs' : (∃ x ∈ l, x.what ≠ 3 ∧ x.chan = (k : Int) + 1) → c'.recvs = off task c.recvs
theorem off_off (task : Int) (r : List (Int × Nat)) : off task (off task r) = off task r := by simp [off, List.filter_filter]
theorem mem_off {task : Int} {r : List (Int × Nat)} {w : Int × Nat} : w ∈ off task r ↔ w ∈ r ∧ w.1 ≠ task := by simp [off]
theorem strikeAt_get {task : Int} {chs : List Ch} {t : Tk} {k : Nat} {c : Ch} (h : chs[k]? = some c) (ht : 0 ≤ t.chan) :
    (strikeAt task chs t)[k]? = some (if t.chan = (k : Int) + 1 then c.strike task t.what else c) := by
  unfold strikeAt
  by_cases h0 : t.chan = 0
  · rw [if_pos h0, if_neg (by omega)]; exact h
  · rw [if_neg h0, List.getElem?_modify, h]
    by_cases e : t.chan = (k : Int) + 1
    · rw [if_pos e]
      have : (t.chan - 1).toNat = k := by omega
      simp [this]
    · rw [if_neg e]
      simp
      intro e2
      exact absurd e2 (by omega)
theorem strike_get {task : Int} {l : List Tk} (hl : ∀ x ∈ l, 0 ≤ x.chan) {chs : List Ch} {k : Nat} {c : Ch} (h : chs[k]? = some c) : ∃ c', (strike task l chs)[k]? = some c' ∧ Less task l k c c' := by
  unfold strike
  induction l generalizing chs c with
  | nil => exact ⟨c, h, rfl, rfl, rfl, Or.inl rfl, Or.inl rfl, fun ⟨_, h, _⟩ => (by cases h), fun ⟨_, h, _⟩ => (by cases h)⟩
  | cons t l ih =>
    rw [List.foldl_cons]
    obtain ⟨c', h1, h2⟩ := ih (fun x hx => hl x (List.mem_cons_of_mem _ hx)) (strikeAt_get h (hl t List.mem_cons_self))
    refine ⟨c', h1, ?_⟩
    by_cases e : t.chan = (k : Int) + 1
    · rw [if_pos e] at h2
      unfold Ch.strike at h2
      by_cases e3 : t.what = 3
      · rw [if_pos e3] at h2
        have hs : c'.sends = off task c.sends := by
          rcases h2.sends with h3 | h3
          · exact h3
          · rw [h3]; exact off_off _ _
        exact ⟨h2.size, h2.nums, h2.shut, Or.inr hs, h2.recvs, fun _ => hs, fun ⟨x, hx, h5, h6⟩ => by
          rcases List.mem_cons.1 hx with rfl | hx
          · exact absurd e3 h5
          · exact h2.recvs' ⟨x, hx, h5, h6⟩⟩
      · rw [if_neg e3] at h2
        have hs : c'.recvs = off task c.recvs := by
          rcases h2.recvs with h3 | h3
          · exact h3
          · rw [h3]; exact off_off _ _
        exact ⟨h2.size, h2.nums, h2.shut, h2.sends, Or.inr hs, fun ⟨x, hx, h5, h6⟩ => by
          rcases List.mem_cons.1 hx with rfl | hx
          · exact absurd h5 e3
          · exact h2.sends' ⟨x, hx, h5, h6⟩, fun _ => hs⟩
    · rw [if_neg e] at h2
      exact ⟨h2.size, h2.nums, h2.shut, h2.sends, h2.recvs, fun ⟨x, hx, h5, h6⟩ => by
          rcases List.mem_cons.1 hx with rfl | hx
          · exact absurd h6 e
          · exact h2.sends' ⟨x, hx, h5, h6⟩, fun ⟨x, hx, h5, h6⟩ => by
          rcases List.mem_cons.1 hx with rfl | hx
          · exact absurd h6 e
          · exact h2.recvs' ⟨x, hx, h5, h6⟩⟩
theorem get_strike {task : Int} {l : List Tk} (hl : ∀ x ∈ l, 0 ≤ x.chan) {chs : List Ch} {k : Nat} {c' : Ch} (h : (strike task l chs)[k]? = some c') : ∃ c, chs[k]? = some c ∧ Less task l k c c' := by
  have hk : k < chs.length := by rw [← strike_len task l chs]; exact (List.getElem?_eq_some_iff.1 h).1
  obtain ⟨c2, h1, h2⟩ := strike_get (task := task) hl (List.getElem?_eq_getElem hk)
  rw [h] at h1
  cases h1
  exact ⟨_, List.getElem?_eq_getElem hk, h2⟩
theorem Ok.le {s : St} (h : Ok s) {task : Int} {l : List Tk} (hl : s.asks task = some l) : ∀ x ∈ l, 0 ≤ x.chan := fun x hx => ((h.talks _ _ hl).2 x hx).1.1
theorem wake_some {s : St} {task : Int} {l : List Tk} (hl : s.asks task = some l) : wake s task = ⟨strike task l s.chs, fun x => if x = task then none else s.asks x⟩ := by unfold wake; rw [hl]; rfl
theorem Ok.wake {s : St} (h : Ok s) {task : Int} {l : List Tk} (hl : s.asks task = some l) : Ok (wake s task) := by
  rw [wake_some hl]
  have hlen := strike_len task l s.chs
  refine ⟨fun t m hm => ?_, fun k c hc w hw => ?_, fun k c hc w hw => ?_, fun k c hc => ?_, by rw [hlen]; exact h.many⟩
  · simp only at hm
    split at hm
    · cases hm
    · rw [hlen]; exact h.talks t m hm
  · obtain ⟨c0, h0, h1⟩ := get_strike (h.le hl) hc
    have hw0 : w ∈ c0.sends := by rcases h1.sends with e | e <;> rw [e] at hw; exact hw; exact (mem_off.1 hw).1
    obtain ⟨m, x, h2, h3, h4, h5⟩ := h.sends k c0 h0 w hw0
    have hne : w.1 ≠ task := fun e => by
      rw [e, hl] at h2
      cases h2
      rw [h1.sends' ⟨x, List.mem_of_getElem? h3, h4, h5⟩] at hw
      exact (mem_off.1 hw).2 e
    exact ⟨m, x, by simp only; rw [if_neg hne]; exact h2, h3, h4, h5⟩
  · obtain ⟨c0, h0, h1⟩ := get_strike (h.le hl) hc
    have hw0 : w ∈ c0.recvs := by rcases h1.recvs with e | e <;> rw [e] at hw; exact hw; exact (mem_off.1 hw).1
    obtain ⟨m, x, h2, h3, h4, h5⟩ := h.recvs k c0 h0 w hw0
    have hne : w.1 ≠ task := fun e => by
      rw [e, hl] at h2
      cases h2
      rw [h1.recvs' ⟨x, List.mem_of_getElem? h3, by rw [h4]; decide, h5⟩] at hw
      exact (mem_off.1 hw).2 e
    exact ⟨m, x, by simp only; rw [if_neg hne]; exact h2, h3, h4, h5⟩
  · obtain ⟨c0, h0, h1⟩ := get_strike (h.le hl) hc
    rw [h1.size, h1.nums]; exact h.caps k c0 h0
/-- Other numbers, or shut: what waits is what waited. -/
theorem Ok.modify {s : St} (h : Ok s) (j : Nat) (f : Ch → Ch) (hs : ∀ c w, w ∈ (f c).sends → w ∈ c.sends) (hr : ∀ c w, w ∈ (f c).recvs → w ∈ c.recvs) (hc : ∀ c, s.chs[j]? = some c → (f c).size = c.size ∧ (f c).nums.length ≤ c.size) : Ok ⟨s.chs.modify j f, s.asks⟩ := by
  have key : ∀ (k : Nat) c, (s.chs.modify j f)[k]? = some c → ∃ c0, s.chs[k]? = some c0 ∧ (c = c0 ∨ (k = j ∧ c = f c0)) := fun k c hk => by
    rw [List.getElem?_modify] at hk
    obtain ⟨c0, h1, h2⟩ := Option.map_eq_some_iff.1 hk
    by_cases e : j = k
    · simp [e] at h2
      exact ⟨c0, h1, Or.inr ⟨e.symm, h2.symm⟩⟩
    · simp [e] at h2
      exact ⟨c0, h1, Or.inl h2.symm⟩
  refine ⟨fun t m hm => ?_, fun k c hk w hw => ?_, fun k c hk w hw => ?_, fun k c hk => ?_, ?_⟩
  · simp only [List.length_modify]; exact h.talks t m hm
  · obtain ⟨c0, h1, h2⟩ := key k c hk
    refine h.sends k c0 h1 w ?_
    rcases h2 with rfl | ⟨_, rfl⟩
    · exact hw
    · exact hs _ _ hw
  · obtain ⟨c0, h1, h2⟩ := key k c hk
    refine h.recvs k c0 h1 w ?_
    rcases h2 with rfl | ⟨_, rfl⟩
    · exact hw
    · exact hr _ _ hw
  · obtain ⟨c0, h1, h2⟩ := key k c hk
    rcases h2 with rfl | ⟨rfl, rfl⟩
    · exact h.caps _ _ h1
    · obtain ⟨h3, h4⟩ := hc c0 h1
      rw [h3]; exact ⟨(h.caps _ _ h1).1, h4⟩
  · simp only [List.length_modify]; exact h.many
theorem Ok.nums {s : St} (h : Ok s) (j : Nat) (nums : List Int) (hc : ∀ c, s.chs[j]? = some c → nums.length ≤ c.size) : Ok (setNums s j nums) := h.modify j _ (fun _ _ h => h) (fun _ _ h => h) fun c hk => ⟨rfl, hc c hk⟩
/-- One more channel. -/
theorem Ok.make {s : St} (h : Ok s) {n : Nat} (hn : n ≤ 8) (hm : s.chs.length < 32) : Ok ⟨s.chs ++ [newCh n], s.asks⟩ := by
  have key : ∀ (k : Nat) c, (s.chs ++ [newCh n])[k]? = some c → s.chs[k]? = some c ∨ c = newCh n := fun k c hk => by
    rw [List.getElem?_append] at hk
    split at hk
    · exact Or.inl hk
    · rcases hj : k - s.chs.length with _ | j
      · rw [hj] at hk; cases hk; exact Or.inr rfl
      · rw [hj] at hk; simp at hk
  refine ⟨fun t m hm => ?_, fun k c hk w hw => ?_, fun k c hk w hw => ?_, fun k c hk => ?_, by simp; omega⟩
  · refine ⟨(h.talks t m hm).1, fun x hx => ⟨⟨((h.talks t m hm).2 x hx).1.1, ?_⟩, ((h.talks t m hm).2 x hx).2⟩⟩
    have := ((h.talks t m hm).2 x hx).1.2
    simp; omega
  · rcases key k c hk with h1 | rfl
    · exact h.sends k c h1 w hw
    · cases hw
  · rcases key k c hk with h1 | rfl
    · exact h.recvs k c h1 w hw
    · cases hw
  · rcases key k c hk with h1 | rfl
    · exact h.caps k c h1
    · exact ⟨hn, Nat.zero_le _⟩
end Pp
end Go.Proofs.YtppbmhpbbiigaaaDoor

namespace Go.Proofs.YtppbmhpbbiigaaaDoor
namespace Pp

/-- Where a task stands in a row. -/
def rowT (task what chan : Int) : List Tk → Nat → List (Int × Nat)
  | [], _ => []
  | t :: l, i => if t.what = what ∧ t.chan = chan then (task, i) :: rowT task what chan l (i + 1) else rowT task what chan l (i + 1)
theorem mem_rowT {task what chan : Int} {l : List Tk} {i : Nat} {w : Int × Nat} (h : w ∈ rowT task what chan l i) : w.1 = task ∧ i ≤ w.2 ∧ ∃ x, l[w.2 - i]? = some x ∧ x.what = what ∧ x.chan = chan := by
  induction l generalizing i with
  | nil => cases h
  | cons t l ih =>
    have go : w ∈ rowT task what chan l (i + 1) → w.1 = task ∧ i ≤ w.2 ∧ ∃ x, (t :: l)[w.2 - i]? = some x ∧ x.what = what ∧ x.chan = chan := fun h => by
      obtain ⟨h1, h2, x, h3, h4⟩ := ih h
      refine ⟨h1, by omega, x, ?_, h4⟩
      rw [show w.2 - i = (w.2 - (i + 1)) + 1 by omega, List.getElem?_cons_succ]; exact h3
    unfold rowT at h
    split at h
    · rcases List.mem_cons.1 h with rfl | h
      · exact ⟨rfl, Nat.le_refl _, t, by simp, by assumption⟩
      · exact go h
    · exact go h
theorem rowT_len (task what chan : Int) (l : List Tk) (i : Nat) : (rowT task what chan l i).length ≤ l.length := by
  induction l generalizing i with
  | nil => exact Nat.le_refl _
  | cons t l ih =>
    have := ih (i + 1)
    unfold rowT
    split <;> simp <;> omega
def Tk.good (m : Nat) (x : Tk) : Prop := (0 ≤ x.chan ∧ x.chan ≤ m) ∧ (x.what = 3 ∨ x.what = 10)
theorem layAt_len (task : Int) (chs : List Ch) (t : Tk) (i : Nat) : (layAt task chs t i).length = chs.length := by unfold layAt; split <;> simp
theorem lay_len (task : Int) (l : List Tk) (chs : List Ch) (i : Nat) : (lay task chs l i).length = chs.length := by
  induction l generalizing chs i with
  | nil => rfl
  | cons t l ih => rw [lay, ih, layAt_len]
theorem layAt_get {task : Int} {chs : List Ch} {t : Tk} {i k : Nat} {c : Ch} (h : chs[k]? = some c) (ht : 0 ≤ t.chan) :
    (layAt task chs t i)[k]? = some (if t.chan = (k : Int) + 1 then c.lay task t.what i else c) := by
  unfold layAt
  by_cases h0 : t.chan = 0
  · rw [if_pos h0, if_neg (by omega)]; exact h
  · rw [if_neg h0, List.getElem?_modify, h]
    by_cases e : t.chan = (k : Int) + 1
    · rw [if_pos e]
      have : (t.chan - 1).toNat = k := by omega
      simp [this]
    · rw [if_neg e]
      simp
      intro e2
      exact absurd e2 (by omega)
theorem lay_get {task : Int} {m : Nat} {l : List Tk} (hl : ∀ x ∈ l, x.good m) {chs : List Ch} {i k : Nat} {c : Ch} (h : chs[k]? = some c) :
    (lay task chs l i)[k]? = some { c with sends := c.sends ++ rowT task 3 ((k : Int) + 1) l i, recvs := c.recvs ++ rowT task 10 ((k : Int) + 1) l i } := by
  induction l generalizing chs i c with
  | nil => simp [lay, rowT, h]
  | cons t l ih =>
    have hg := hl t List.mem_cons_self
    rw [lay, ih (fun x hx => hl x (List.mem_cons_of_mem _ hx)) (layAt_get h hg.1.1)]
    congr 1
    by_cases e : t.chan = (k : Int) + 1
    · rw [if_pos e]
      rcases hg.2 with e3 | e3
      · simp [Ch.lay, rowT, e, e3]
      · simp [Ch.lay, rowT, e, e3]
    · rw [if_neg e]
      simp [rowT, e]
theorem get_lay {task : Int} {m : Nat} {l : List Tk} (hl : ∀ x ∈ l, x.good m) {chs : List Ch} {i k : Nat} {c' : Ch} (h : (lay task chs l i)[k]? = some c') :
    ∃ c, chs[k]? = some c ∧ c' = { c with sends := c.sends ++ rowT task 3 ((k : Int) + 1) l i, recvs := c.recvs ++ rowT task 10 ((k : Int) + 1) l i } := by
  have hk : k < chs.length := by rw [← lay_len task l chs i]; exact (List.getElem?_eq_some_iff.1 h).1
  have := lay_get (task := task) (i := i) hl (List.getElem?_eq_getElem hk)
  rw [h] at this
  exact ⟨_, List.getElem?_eq_getElem hk, by injection this⟩
theorem Ok.wait {s : St} (h : Ok s) {task : Int} {l : List Tk} (hn : s.asks task = none) (hl : ∀ x ∈ l, x.good s.chs.length) (h6 : l.length ≤ 6) : Ok (wait s task l) := by
  have hlen := lay_len task l s.chs 0
  have old : ∀ {t : Int} {m : List Tk}, s.asks t = some m → (Pp.wait s task l).asks t = some m := fun {t m} ht => by
    unfold Pp.wait; simp only; rw [if_neg (fun e => by rw [e, hn] at ht; cases ht)]; exact ht
  refine ⟨fun t m hm => ?_, fun k c hc w hw => ?_, fun k c hc w hw => ?_, fun k c hc => ?_, by unfold Pp.wait; simp only; rw [hlen]; exact h.many⟩
  · unfold Pp.wait at hm ⊢
    simp only at hm ⊢
    rw [hlen]
    split at hm
    · cases hm; exact ⟨h6, hl⟩
    · exact h.talks t m hm
  · obtain ⟨c0, h0, rfl⟩ := get_lay hl hc
    rcases List.mem_append.1 hw with h1 | h1
    · obtain ⟨m, x, h2, h3⟩ := h.sends k c0 h0 w h1
      exact ⟨m, x, old h2, h3⟩
    · obtain ⟨h2, _, x, h3, h4, h5⟩ := mem_rowT h1
      exact ⟨l, x, by unfold Pp.wait; simp only; rw [if_pos h2], h3, h4, h5⟩
  · obtain ⟨c0, h0, rfl⟩ := get_lay hl hc
    rcases List.mem_append.1 hw with h1 | h1
    · obtain ⟨m, x, h2, h3⟩ := h.recvs k c0 h0 w h1
      exact ⟨m, x, old h2, h3⟩
    · obtain ⟨h2, _, x, h3, h4, h5⟩ := mem_rowT h1
      exact ⟨l, x, by unfold Pp.wait; simp only; rw [if_pos h2], h3, h4, h5⟩
  · obtain ⟨c0, h0, rfl⟩ := get_lay hl hc
    exact h.caps k c0 h0
theorem Ok.wakeAll {s : St} (h : Ok s) (r : List (Int × Nat)) : Ok (wakeAll s r).1 := by
  induction r generalizing s with
  | nil => exact h
  | cons w r ih =>
    unfold Pp.wakeAll
    cases hw : s.asks w.1 with
    | none => simpa using ih h
    | some l => simpa using ih (h.wake hw)
/-- All that a row of talks may hold that stands where no Else and nothing wrong is. -/
theorem other_good {m : Nat} {l : List Tk} {k : Nat} {o : Int} (h : (other m l k o).2 = 0) (hn : (other m l k o).1 < 0) (ho : o < 0) : ∀ x ∈ l, x.good m := by
  induction l generalizing k o with
  | nil => intro x hx; cases hx
  | cons t l ih =>
    unfold other at h hn
    by_cases e : t.what = 40
    · rw [if_pos e, if_neg (by omega)] at h hn
      exfalso
      have key : ∀ (l : List Tk) (k : Nat) (o : Int), 0 ≤ o → (other m l k o).2 = 0 → 0 ≤ (other m l k o).1 := by
        intro l
        induction l with
        | nil => intro k o ho _; exact ho
        | cons t l ih =>
          intro k o ho h
          unfold other at h ⊢
          split at h
          · exact absurd h (by decide)
          · rename_i e1
            rw [if_neg e1]
            split at h
            · cases h
            · rename_i e2
              rw [if_neg e2]
              split at h
              · cases h
              · rename_i e3
                rw [if_neg e3]
                exact ih _ _ ho h
      have := key l (k + 1) k (by omega) h
      omega
    · rw [if_neg e] at h hn
      split at h
      · cases h
      · rename_i e2
        rw [if_neg e2] at hn
        split at h
        · cases h
        · rename_i e3
          rw [if_neg e3] at hn
          intro x hx
          rcases List.mem_cons.1 hx with rfl | hx
          · refine ⟨?_, ?_⟩
            · unfold may at e3; simp at e3; exact e3
            · rcases Classical.em (x.what = 3) with h5 | h5
              · exact Or.inl h5
              · exact Or.inr (Classical.byContradiction fun h6 => e2 ⟨h5, h6⟩)
          · exact ih h hn ho x hx
end Pp
end Go.Proofs.YtppbmhpbbiigaaaDoor

namespace Go.Proofs.YtppbmhpbbiigaaaDoor
namespace Pp

theorem mem_frees {chs : List Ch} : ∀ {l : List Tk} {i k : Nat}, k ∈ frees chs l i → i ≤ k ∧ ∃ x, l[k - i]? = some x ∧ isFree chs x = true
  | [], _, _, h => by cases h
  | t :: l, i, k, h => by
    have go : k ∈ frees chs l (i + 1) → i ≤ k ∧ ∃ x, (t :: l)[k - i]? = some x ∧ isFree chs x = true := fun h => by
      obtain ⟨h1, x, h2, h3⟩ := mem_frees h
      refine ⟨by omega, x, ?_, h3⟩
      rw [show k - i = (k - (i + 1)) + 1 by omega, List.getElem?_cons_succ]; exact h2
    unfold frees at h
    split at h
    · next hf =>
      rcases List.mem_cons.1 h with rfl | h
      · exact ⟨Nat.le_refl _, t, by simp, hf⟩
      · exact go h
    · exact go h
theorem isFree_chan {chs : List Ch} {x : Tk} (h : isFree chs x = true) (h0 : 0 ≤ x.chan) : ∃ (k : Nat) (c : Ch), x.chan = (k : Int) + 1 ∧ chs[k]? = some c ∧ c.free x.what = true ∧ x.what ≠ 40 := by
  unfold isFree chan at h
  simp only [Bool.and_eq_true, decide_eq_true_eq] at h
  obtain ⟨h1, h2⟩ := h
  by_cases hc : x.chan = 0
  · simp [hc] at h2
  · rw [if_neg hc] at h2
    refine ⟨(x.chan - 1).toNat, ?_⟩
    cases hg : chs[(x.chan - 1).toNat]? with
    | none => rw [hg] at h2; cases h2
    | some c => rw [hg] at h2; exact ⟨c, by omega, rfl, h2, h1⟩
theorem Ok.send {s : St} (h : Ok s) {k : Nat} {c : Ch} (hc : s.chs[k]? = some c) (n : Int) : Ok (Pp.send s k c n).st := by
  unfold Pp.send
  split
  · exact h
  · split
    · next w r hr =>
      obtain ⟨l, x, h1, _⟩ := h.recvs k c hc w (by rw [hr]; exact List.mem_cons_self)
      exact h.wake h1
    · split
      · exact h
      · next hn =>
        refine h.nums k _ fun c' hc' => ?_
        rw [hc] at hc'
        cases hc'
        have := (h.caps k c hc).2
        rw [List.length_append, List.length_singleton]; omega
theorem Ok.recv {s : St} (h : Ok s) {k : Nat} {c : Ch} (hc : s.chs[k]? = some c) : Ok (Pp.recv s k c).st := by
  have hcap := (h.caps k c hc).2
  unfold Pp.recv
  split
  · exact h
  · next w r hn hs =>
    obtain ⟨l, x, h1, _⟩ := h.sends k c hc w (by rw [hs]; exact List.mem_cons_self)
    exact h.wake h1
  · next x r hn hs =>
    refine h.nums k _ fun c' hc' => ?_
    rw [hc] at hc'
    cases hc'
    rw [hn, List.length_cons] at hcap; omega
  · next x r w r2 hn hs =>
    obtain ⟨l, y, h1, _⟩ := h.sends k c hc w (by rw [hs]; exact List.mem_cons_self)
    have ha : Ok (setNums s k r) := h.nums k _ fun c' hc' => by
      rw [hc] at hc'
      cases hc'
      rw [hn, List.length_cons] at hcap; omega
    have hb : Ok (Pp.wake (setNums s k r) w.1) := ha.wake (l := l) h1
    refine hb.nums k _ fun c' hc' => ?_
    rw [wake_some (s := setNums s k r) (l := l) h1] at hc'
    obtain ⟨c0, h2, h3⟩ := get_strike (ha.le h1) hc'
    unfold setNums at h2
    simp only [List.getElem?_modify, hc] at h2
    simp at h2
    rw [h3.size, ← h2]
    rw [hn, List.length_cons] at hcap
    rw [List.length_append, List.length_singleton]; exact hcap
theorem Ok.doT {s : St} (h : Ok s) (t : Tk) : Ok (Pp.doT s t).st := by
  unfold Pp.doT
  split
  · exact h
  · next c hc =>
    split
    · exact h.recv hc
    · exact h.send hc _
theorem Ok.talk {s : St} (h : Ok s) (task : Int) (l : List Tk) (draw : Int) : Ok (Pp.talk s task l draw).st := by
  unfold Pp.talk
  split
  · exact h
  · next h1 =>
    split
    · exact h
    · next h2 =>
      split
      · exact h
      · next h3 =>
        split
        · simp only
          split
          · exact h.doT _
          · exact h.doT _
        · split
          · exact h
          · next h5 =>
            refine h.wait ?_ (other_good (k := 0) (o := -1) (by omega) (by omega) (by decide)) (by omega)
            cases hs : s.asks task with
            | none => rfl
            | some m => rw [hs] at h1; exact absurd rfl h1
theorem Ok.close {s : St} (h : Ok s) (c : Int) : Ok (Pp.close s c).st := by
  unfold Pp.close
  split
  · exact h
  · split
    · exact h
    · next x hx =>
      split
      · exact h
      · split
        · exact h
        · refine Ok.wakeAll (h.modify (c - 1).toNat (fun c => { c with shut := true, recvs := [] }) (fun _ _ e => e) (fun _ _ e => absurd e List.not_mem_nil) fun c' hc' => ?_) _
          exact ⟨rfl, (h.caps _ c' hc').2⟩
end Pp
end Go.Proofs.YtppbmhpbbiigaaaDoor

namespace Go.Proofs.YtppbmhpbbiigaaaDoor
namespace Pp

theorem wakeAll_snoc (r : List (Int × Nat)) (w : Int × Nat) : ∀ s : St, wakeAll s (r ++ [w]) = if ((wakeAll s r).1.asks w.1).isSome then (wake (wakeAll s r).1 w.1, (wakeAll s r).2 ++ [⟨w.1, w.2, 0⟩]) else wakeAll s r := by
  induction r with
  | nil =>
    intro s
    rw [List.nil_append, wakeAll, wakeAll, wakeAll]
    split <;> rfl
  | cons x r ih =>
    intro s
    rw [List.cons_append, wakeAll, wakeAll]
    split
    · next h =>
      rw [ih]
      simp only
      split <;> rfl
    · exact ih s
/-- One channel; tasks 0 to k - 1 wait at it to receive. -/
def shC (size : Nat) (nums : List Int) (shut : Bool) (k : Nat) : Ch := ⟨size, nums, shut, [], (List.range k).map fun (i : Nat) => ((i : Int), 0)⟩
def shS (size : Nat) (nums : List Int) (shut : Bool) (k : Nat) : St := ⟨[shC size nums shut k], fun x => if 0 ≤ x ∧ x < k then some [⟨10, 1, 0⟩] else none⟩
theorem shS_new (size : Nat) : (⟨[newCh size], fun _ => none⟩ : St) = shS size [] false 0 := by
  unfold shS
  congr 1
  funext x
  rw [if_neg (by omega)]
theorem shS_asks {size : Nat} {nums : List Int} {shut : Bool} {k : Nat} {x : Int} (h : (k : Int) ≤ x) : (shS size nums shut k).asks x = none := by
  unfold shS
  simp only
  rw [if_neg (by omega)]
theorem chan_one (c : Ch) : chan [c] 1 = some c := rfl
theorem may_one : may 1 1 = true := by decide
theorem talk_send {size : Nat} {nums : List Int} (h : nums.length < size) (t : Int) (ht : 0 ≤ t) (v : Int) : talk (shS size nums false 0) t [⟨3, 1, v⟩] 0 = ⟨shS size (nums ++ [v]) false 0, 0, 0, [], false, 0⟩ := by
  have ha := shS_asks (size := size) (nums := nums) (shut := false) (k := 0) (x := t) (by omega)
  have ho : other (shS size nums false 0).chs.length [⟨3, 1, v⟩] 0 (-1) = (-1, 0) := by simp [other, shS, may]
  have hf : frees (shS size nums false 0).chs [⟨3, 1, v⟩] 0 = [0] := by simp [frees, isFree, shS, chan, Ch.free, shC, h]
  unfold talk
  rw [ha, ho, hf]
  have hd : doT (shS size nums false 0) ⟨3, 1, v⟩ = ⟨shS size (nums ++ [v]) false 0, 0, [], 0⟩ := by
    have hne : ¬ nums.length = size := by omega
    simp [doT, shS, send, shC, hne, setNums]
  simp [drawn, hd]
theorem talk_wait (size k : Nat) : talk (shS size [] false k) k [⟨10, 1, 0⟩] 0 = ⟨shS size [] false (k + 1), 0, 0, [], true, 0⟩ := by
  have ha := shS_asks (size := size) (nums := []) (shut := false) (k := k) (x := k) (by omega)
  have ho : other (shS size [] false k).chs.length [⟨10, 1, 0⟩] 0 (-1) = (-1, 0) := by simp [other, shS, may]
  have hf : frees (shS size [] false k).chs [⟨10, 1, 0⟩] 0 = [] := by simp [frees, isFree, shS, chan, Ch.free, shC]
  unfold talk
  rw [ha, ho, hf]
  have hd : wait (shS size [] false k) k [⟨10, 1, 0⟩] = shS size [] false (k + 1) := by
    unfold wait
    have h1 : lay (k : Int) (shS size [] false k).chs [⟨10, 1, 0⟩] 0 = (shS size [] false (k + 1)).chs := by
      simp [lay, layAt, shS, Ch.lay, shC, List.range_succ]
    rw [h1]
    unfold shS
    simp only
    congr 1
    funext x
    by_cases e : x = (k : Int)
    · rw [if_pos e, if_pos (by omega)]
    · rw [if_neg e]
      by_cases e2 : 0 ≤ x ∧ x < (k : Int)
      · rw [if_pos e2, if_pos (by omega)]
      · rw [if_neg e2, if_neg (by omega)]
  simp [hd]
theorem wakeAll_sh (c : Ch) (hc : c.recvs = []) (k : Nat) : ∀ j : Nat, j ≤ k → wakeAll ⟨[c], fun x => if 0 ≤ x ∧ x < (k : Int) then some [⟨10, 1, 0⟩] else none⟩ ((List.range j).map fun (i : Nat) => ((i : Int), 0)) =
    (⟨[c], fun x => if (j : Int) ≤ x ∧ x < (k : Int) then some [⟨10, 1, 0⟩] else none⟩, (List.range j).map fun (i : Nat) => ⟨(i : Int), 0, 0⟩) := by
  intro j
  induction j with
  | zero => intro _; rfl
  | succ j ih =>
    intro hj
    rw [List.range_succ, List.map_append, List.map_append, List.map_singleton, List.map_singleton, wakeAll_snoc, ih (by omega)]
    have hw : (⟨[c], fun x => if (j : Int) ≤ x ∧ x < (k : Int) then some [⟨10, 1, 0⟩] else none⟩ : St).asks (j : Int) = some [⟨10, 1, 0⟩] := by simp only; rw [if_pos (by omega)]
    rw [if_pos (by simp only; rw [if_pos (by omega)]; rfl), wake_some hw]
    have h1 : strike (j : Int) [⟨10, 1, 0⟩] [c] = [c] := by
      obtain ⟨a1, a2, a3, a4, a5⟩ := c
      simp only at hc
      subst hc
      simp [strike, strikeAt, Ch.strike, off]
    simp only [h1]
    congr 1
    congr 1
    funext x
    by_cases e : x = (j : Int)
    · rw [if_pos e, if_neg (by omega)]
    · rw [if_neg e]
      by_cases e2 : (j : Int) ≤ x ∧ x < (k : Int)
      · rw [if_pos e2, if_pos (by omega)]
      · rw [if_neg e2, if_neg (by omega)]
theorem close_sh (size : Nat) (nums : List Int) (k : Nat) : close (shS size nums false k) 1 = ⟨shS size nums true 0, 0, (List.range k).map fun (i : Nat) => ⟨(i : Int), 0, 0⟩, 0⟩ := by
  unfold close
  have hm : may (shS size nums false k).chs.length 1 = true := may_one
  rw [if_neg (by rw [hm]; decide)]
  have hch : chan (shS size nums false k).chs 1 = some (shC size nums false k) := rfl
  rw [hch]
  simp only
  rw [if_neg (by simp [shC]), if_neg (by simp [shC])]
  have hmod : (shS size nums false k).chs.modify ((1 : Int) - 1).toNat (fun c => { c with shut := true, recvs := [] }) = [⟨size, nums, true, [], []⟩] := by simp [shS, shC]
  rw [hmod]
  have := wakeAll_sh ⟨size, nums, true, [], []⟩ rfl k k (Nat.le_refl _)
  have hr : (shC size nums false k).recvs = (List.range k).map fun (i : Nat) => ((i : Int), 0) := rfl
  have hs : (shS size nums false k).asks = fun x => if 0 ≤ x ∧ x < (k : Int) then some [⟨10, 1, 0⟩] else none := rfl
  rw [hr, hs, this]
  congr 1
  unfold shS shC
  simp only
  congr 1
  funext x
  rw [if_neg (by omega), if_neg (by omega)]
theorem talk_take {size : Nat} {v : Int} {r : List Int} (t : Int) (ht : 0 ≤ t) : talk (shS size (v :: r) true 0) t [⟨10, 1, 0⟩] 0 = ⟨shS size r true 0, 0, v, [], false, 0⟩ := by
  have ha := shS_asks (size := size) (nums := v :: r) (shut := true) (k := 0) (x := t) (by omega)
  have ho : other (shS size (v :: r) true 0).chs.length [⟨10, 1, 0⟩] 0 (-1) = (-1, 0) := by simp [other, shS, may]
  have hf : frees (shS size (v :: r) true 0).chs [⟨10, 1, 0⟩] 0 = [0] := by simp [frees, isFree, shS, chan, Ch.free, shC]
  unfold talk
  rw [ha, ho, hf]
  have hd : doT (shS size (v :: r) true 0) ⟨10, 1, 0⟩ = ⟨shS size r true 0, v, [], 0⟩ := by simp [doT, shS, recv, shC, setNums]
  simp [drawn, hd]
theorem talk_none0 {size : Nat} (t : Int) (ht : 0 ≤ t) : talk (shS size [] true 0) t [⟨10, 1, 0⟩] 0 = ⟨shS size [] true 0, 0, 0, [], false, 0⟩ := by
  have ha := shS_asks (size := size) (nums := []) (shut := true) (k := 0) (x := t) (by omega)
  have ho : other (shS size [] true 0).chs.length [⟨10, 1, 0⟩] 0 (-1) = (-1, 0) := by simp [other, shS, may]
  have hf : frees (shS size [] true 0).chs [⟨10, 1, 0⟩] 0 = [0] := by simp [frees, isFree, shS, chan, Ch.free, shC]
  unfold talk
  rw [ha, ho, hf]
  have hd : doT (shS size [] true 0) ⟨10, 1, 0⟩ = ⟨shS size [] true 0, 0, [], 0⟩ := by simp [doT, shS, recv, shC]
  simp [drawn, hd]
theorem talk_shut {size : Nat} {nums : List Int} (t : Int) (ht : 0 ≤ t) (v : Int) : talk (shS size nums true 0) t [⟨3, 1, v⟩] 0 = ⟨shS size nums true 0, 0, 0, [], false, 13⟩ := by
  have ha := shS_asks (size := size) (nums := nums) (shut := true) (k := 0) (x := t) (by omega)
  have ho : other (shS size nums true 0).chs.length [⟨3, 1, v⟩] 0 (-1) = (-1, 0) := by simp [other, shS, may]
  have hf : frees (shS size nums true 0).chs [⟨3, 1, v⟩] 0 = [0] := by simp [frees, isFree, shS, chan, Ch.free, shC]
  unfold talk
  rw [ha, ho, hf]
  have hd : doT (shS size nums true 0) ⟨3, 1, v⟩ = ⟨shS size nums true 0, 0, [], 13⟩ := by simp [doT, shS, send, shC]
  simp [drawn, hd]
theorem close_shut (size : Nat) (nums : List Int) : close (shS size nums true 0) 1 = ⟨shS size nums true 0, 0, [], 1⟩ := by
  unfold close
  have hm : may (shS size nums true 0).chs.length 1 = true := may_one
  rw [if_neg (by rw [hm]; decide)]
  have hch : chan (shS size nums true 0).chs 1 = some (shC size nums true 0) := rfl
  rw [hch]
  simp only
  rw [if_pos (by simp [shC])]
end Pp
end Go.Proofs.YtppbmhpbbiigaaaDoor

namespace Go.Proofs.YtppbmhpbbiigaaaDoor
namespace Pp

/-- Where those of a list stand who want to do that with a channel. -/
def rowR (ws : List (Int × List Tk)) (what c : Int) : List (Int × Nat) := ws.flatMap fun w => rowT w.1 what c w.2 0
theorem rowR_nil (what c : Int) : rowR [] what c = [] := rfl
theorem rowR_cons (w : Int × List Tk) (ws : List (Int × List Tk)) (what c : Int) : rowR (w :: ws) what c = rowT w.1 what c w.2 0 ++ rowR ws what c := by simp [rowR]
theorem rowR_append (a b : List (Int × List Tk)) (what c : Int) : rowR (a ++ b) what c = rowR a what c ++ rowR b what c := by simp [rowR]
structure Rel (s : St) (ws : List (Int × List Tk)) : Prop where
  nod : (ws.map (·.1)).Nodup
  asks : ∀ x l, s.asks x = some l ↔ (x, l) ∈ ws
  rows : ∀ (k : Nat) c, s.chs[k]? = some c → c.sends = rowR ws 3 ((k : Int) + 1) ∧ c.recvs = rowR ws 10 ((k : Int) + 1)
theorem Rel.zero : Rel zero [] := ⟨List.nodup_nil, fun x l => by simp [Pp.zero], fun k c h => by cases h⟩
theorem rowT_none {task what c : Int} {l : List Tk} (h : ∀ x ∈ l, ¬ (x.what = what ∧ x.chan = c)) : ∀ i, rowT task what c l i = [] := by
  induction l with
  | nil => intro i; rfl
  | cons t l ih =>
    intro i
    unfold rowT
    rw [if_neg (h t List.mem_cons_self)]
    exact ih (fun x hx => h x (List.mem_cons_of_mem _ hx)) _
theorem rowR_none {ws : List (Int × List Tk)} {what c : Int} (h : ∀ w ∈ ws, ∀ x ∈ w.2, x.chan ≠ c) : rowR ws what c = [] := by
  induction ws with
  | nil => rfl
  | cons w ws ih =>
    rw [rowR_cons, ih fun y hy => h y (List.mem_cons_of_mem _ hy), rowT_none fun x hx e => h w List.mem_cons_self x hx e.2]
    rfl
theorem Rel.make {s : St} {ws : List (Int × List Tk)} (h : Rel s ws) (ok : Ok s) (n : Nat) : Rel ⟨s.chs ++ [newCh n], s.asks⟩ ws := by
  have h0 : ∀ what : Int, rowR ws what ((s.chs.length : Int) + 1) = [] := fun what => rowR_none fun w hw x hx e => by
    have h1 := (h.asks w.1 w.2).2 hw
    have h2 := ((ok.talks _ _ h1).2 x hx).1.2
    omega
  refine ⟨h.nod, h.asks, fun k c hk => ?_⟩
  rcases Nat.lt_or_ge k s.chs.length with h1 | h1
  · simp only at hk
    rw [List.getElem?_append_left h1] at hk
    exact h.rows k c hk
  · simp only at hk
    have hl : k = s.chs.length := by
      have := (List.getElem?_eq_some_iff.1 hk).1
      rw [List.length_append, List.length_singleton] at this
      omega
    subst hl
    rw [List.getElem?_append_right h1, Nat.sub_self] at hk
    cases hk
    rw [h0, h0]
    exact ⟨rfl, rfl⟩
theorem Rel.modify {s : St} {ws : List (Int × List Tk)} (h : Rel s ws) (j : Nat) (f : Ch → Ch) (hs : ∀ c, (f c).sends = c.sends) (hr : ∀ c, (f c).recvs = c.recvs) : Rel ⟨s.chs.modify j f, s.asks⟩ ws := by
  refine ⟨h.nod, h.asks, fun k c hk => ?_⟩
  simp only at hk
  rw [List.getElem?_modify] at hk
  obtain ⟨c0, h1, h2⟩ := Option.map_eq_some_iff.1 hk
  have h3 := h.rows k c0 h1
  by_cases e : j = k
  · simp [e] at h2
    rw [← h2, hs, hr]
    exact h3
  · simp [e] at h2
    rw [← h2]
    exact h3
theorem Rel.nums {s : St} {ws : List (Int × List Tk)} (h : Rel s ws) (j : Nat) (l : List Int) : Rel (setNums s j l) ws := h.modify j _ (fun _ => rfl) fun _ => rfl
theorem off_append (t : Int) (a b : List (Int × Nat)) : off t (a ++ b) = off t a ++ off t b := by simp [off]
theorem off_none {t : Int} {r : List (Int × Nat)} (h : ∀ w ∈ r, w.1 ≠ t) : off t r = r := List.filter_eq_self.2 fun w hw => by simpa using h w hw
theorem off_all {t : Int} {r : List (Int × Nat)} (h : ∀ w ∈ r, w.1 = t) : off t r = [] := by
  unfold off
  rw [List.filter_eq_nil_iff]
  intro w hw
  simp [h w hw]
theorem rowR_filter (t what c : Int) (ws : List (Int × List Tk)) : rowR (ws.filter fun w => decide (w.1 ≠ t)) what c = off t (rowR ws what c) := by
  induction ws with
  | nil => rfl
  | cons w ws ih =>
    rw [rowR_cons, off_append, ← ih]
    by_cases e : w.1 = t
    · rw [List.filter_cons_of_neg (by simp [e]), off_all fun y hy => by rw [(mem_rowT hy).1, e]]
      rfl
    · rw [List.filter_cons_of_pos (by simp [e]), rowR_cons, off_none fun y hy => by rw [(mem_rowT hy).1]; exact e]
theorem Rel.wake {s : St} {ws : List (Int × List Tk)} (h : Rel s ws) (ok : Ok s) {task : Int} {l : List Tk} (hl : s.asks task = some l) : Rel (Pp.wake s task) (ws.filter fun w => decide (w.1 ≠ task)) := by
  rw [wake_some hl]
  refine ⟨?_, fun x m => ?_, fun k c hk => ?_⟩
  · exact List.Nodup.sublist (List.Sublist.map _ List.filter_sublist) h.nod
  · simp only [List.mem_filter]
    by_cases e : x = task
    · simp [e]
    · rw [if_neg e, h.asks]
      simp [e]
  · obtain ⟨c0, h0, h1⟩ := get_strike (ok.le hl) hk
    obtain ⟨h2, h3⟩ := h.rows k c0 h0
    rw [rowR_filter, rowR_filter, ← h2, ← h3]
    constructor
    · by_cases e : ∃ x ∈ l, x.what = 3 ∧ x.chan = (k : Int) + 1
      · exact h1.sends' e
      · have hn : off task c0.sends = c0.sends := off_none fun w hw e2 => by
          obtain ⟨m, x, h4, h5, h6, h7⟩ := ok.sends k c0 h0 w hw
          rw [e2, hl] at h4
          cases h4
          exact e ⟨x, List.mem_of_getElem? h5, h6, h7⟩
        rcases h1.sends with e3 | e3
        · rw [e3, hn]
        · exact e3
    · by_cases e : ∃ x ∈ l, x.what ≠ 3 ∧ x.chan = (k : Int) + 1
      · exact h1.recvs' e
      · have hn : off task c0.recvs = c0.recvs := off_none fun w hw e2 => by
          obtain ⟨m, x, h4, h5, h6, h7⟩ := ok.recvs k c0 h0 w hw
          rw [e2, hl] at h4
          cases h4
          exact e ⟨x, List.mem_of_getElem? h5, by rw [h6]; decide, h7⟩
        rcases h1.recvs with e3 | e3
        · rw [e3, hn]
        · exact e3
theorem Rel.noone {s : St} {ws : List (Int × List Tk)} (h : Rel s ws) {x : Int} (hx : s.asks x = none) : ∀ w ∈ ws, w.1 ≠ x := fun w hw e => by
  have h1 := (h.asks w.1 w.2).2 hw
  rw [e, hx] at h1
  cases h1
theorem Rel.wait {s : St} {ws : List (Int × List Tk)} (h : Rel s ws) {task : Int} {l : List Tk} (hn : s.asks task = none) (hl : ∀ x ∈ l, x.good s.chs.length) : Rel (Pp.wait s task l) (ws ++ [(task, l)]) := by
  refine ⟨?_, fun x m => ?_, fun k c hk => ?_⟩
  · rw [List.map_append, List.nodup_append]
    refine ⟨h.nod, by simp, fun a ha b hb e => ?_⟩
    obtain ⟨w, hw, rfl⟩ := List.mem_map.1 ha
    simp at hb
    exact h.noone hn w hw (by rw [e, hb])
  · unfold Pp.wait
    simp only [List.mem_append, List.mem_singleton]
    by_cases e : x = task
    · rw [if_pos e]
      subst e
      constructor
      · intro h1
        cases h1
        exact Or.inr rfl
      · rintro (h1 | h1)
        · rw [← h.asks, hn] at h1
          cases h1
        · cases h1
          rfl
    · rw [if_neg e, h.asks]
      constructor
      · exact Or.inl
      · rintro (h1 | h1)
        · exact h1
        · cases h1
          exact absurd rfl e
  · obtain ⟨c0, h0, rfl⟩ := get_lay hl hk
    obtain ⟨h2, h3⟩ := h.rows k c0 h0
    simp only
    rw [rowR_append, rowR_append, ← h2, ← h3]
    simp [rowR]
/-- Whether a task waits, by the list. -/
theorem Rel.isSome {s : St} {ws : List (Int × List Tk)} (h : Rel s ws) (x : Int) : (s.asks x).isSome = ws.any fun w => decide (w.1 = x) := by
  cases hx : s.asks x with
  | none =>
    symm
    rw [List.any_eq_false.2 fun w hw => by simpa using h.noone hx w hw]
    rfl
  | some l =>
    symm
    show (ws.any fun w => decide (w.1 = x)) = true
    rw [List.any_eq_true]
    exact ⟨(x, l), (h.asks x l).1 hx, by simp⟩
/-- What comes of a receive, all numbers first. -/
def recvR (s : St) (k : Nat) (c : Ch) : Got :=
  let all := c.nums ++ (match c.sends with | [] => [] | w :: _ => [sent s w])
  let st := match c.sends with | [] => s | w :: _ => wake s w.1
  let wk : List Wk := match c.sends with | [] => [] | w :: _ => [⟨w.1, w.2, 0⟩]
  match all with
  | [] => ⟨st, 0, wk, 0⟩
  | x :: r => ⟨setNums st k r, x, wk, 0⟩
theorem setNums_self {s : St} {k : Nat} {l : List Int} (h : ∀ c, s.chs[k]? = some c → c.nums = l) : setNums s k l = s := by
  unfold setNums
  have : s.chs.modify k (fun c => { c with nums := l }) = s.chs := by
    apply List.ext_getElem?
    intro j
    rw [List.getElem?_modify]
    by_cases e : k = j
    · subst e
      cases hc : s.chs[k]? with
      | none => rfl
      | some c =>
        have := h c hc
        subst this
        simp
    · simp [e]
  rw [this]
theorem strike_setNums {task : Int} {l : List Tk} (hl : ∀ x ∈ l, 0 ≤ x.chan) {chs : List Ch} {k : Nat} {r : List Int} : strike task l (chs.modify k fun c => { c with nums := r }) = (strike task l chs).modify k fun c => { c with nums := r } := by
  unfold strike
  induction l generalizing chs with
  | nil => rfl
  | cons t l ih =>
    rw [List.foldl_cons, List.foldl_cons, ← ih (fun x hx => hl x (List.mem_cons_of_mem _ hx))]
    congr 1
    unfold strikeAt
    split
    · rfl
    · apply List.ext_getElem?
      intro j
      rw [List.getElem?_modify, List.getElem?_modify, List.getElem?_modify, List.getElem?_modify]
      cases chs[j]? with
      | none => rfl
      | some c =>
        generalize (t.chan - 1).toNat = q
        by_cases e1 : k = j <;> by_cases e2 : q = j <;> by_cases e3 : t.what = 3 <;> simp [e1, e2, e3, Ch.strike]
theorem recvR_eq {s : St} (ok : Ok s) {k : Nat} {c : Ch} (hc : s.chs[k]? = some c) : Pp.recv s k c = recvR s k c := by
  unfold Pp.recv recvR
  rcases hn : c.nums with _ | ⟨x, r⟩ <;> rcases hs : c.sends with _ | ⟨w, r2⟩
  · rfl
  · obtain ⟨l, y, h1, _⟩ := ok.sends k c hc w (by rw [hs]; exact List.mem_cons_self)
    simp only [List.nil_append]
    rw [setNums_self]
    intro c' hc'
    rw [wake_some h1] at hc'
    obtain ⟨c0, h2, h3⟩ := get_strike (ok.le h1) hc'
    rw [hc] at h2
    cases h2
    rw [h3.nums, hn]
  · simp
  · obtain ⟨l, y, h1, _⟩ := ok.sends k c hc w (by rw [hs]; exact List.mem_cons_self)
    have h1' : (setNums s k r).asks w.1 = some l := h1
    simp only [List.cons_append]
    congr 1
    rw [wake_some h1, wake_some h1']
    unfold setNums
    congr 1
    rw [strike_setNums (ok.le h1)]
    apply List.ext_getElem?
    intro j
    rw [List.getElem?_modify, List.getElem?_modify, List.getElem?_modify]
    cases (strike w.1 l s.chs)[j]? with
    | none => rfl
    | some c => by_cases e : k = j <;> simp [e]
end Pp
end Go.Proofs.YtppbmhpbbiigaaaDoor

namespace Go.Proofs.YtppbmhpbbiigaaaDoor
namespace Pp

/-- Nobody waits to receive at one channel. -/
def clr (k : Nat) (s : St) : St := ⟨s.chs.modify k fun c => { c with recvs := [] }, s.asks⟩
theorem strike_clr {task : Int} {l : List Tk} {chs : List Ch} {k : Nat} : strike task l (chs.modify k fun c => { c with recvs := [] }) = (strike task l chs).modify k fun c => { c with recvs := [] } := by
  unfold strike
  induction l generalizing chs with
  | nil => rfl
  | cons t l ih =>
    rw [List.foldl_cons, List.foldl_cons, ← ih]
    congr 1
    unfold strikeAt
    split
    · rfl
    · apply List.ext_getElem?
      intro j
      rw [List.getElem?_modify, List.getElem?_modify, List.getElem?_modify, List.getElem?_modify]
      cases chs[j]? with
      | none => rfl
      | some c =>
        generalize (t.chan - 1).toNat = q
        by_cases e1 : k = j <;> by_cases e2 : q = j <;> by_cases e3 : t.what = 3 <;> simp [e1, e2, e3, Ch.strike, off]
theorem wake_clr (s : St) (k : Nat) (t : Int) : Pp.wake (clr k s) t = clr k (Pp.wake s t) := by
  unfold Pp.wake clr
  simp only [strike_clr]
theorem wakeAll_off (t : Int) : ∀ (r : List (Int × Nat)) (s : St), s.asks t = none → wakeAll s (off t r) = wakeAll s r := by
  intro r
  induction r with
  | nil => intro s _; rfl
  | cons w r ih =>
    intro s hs
    by_cases e : w.1 = t
    · have h1 : off t (w :: r) = off t r := by unfold off; rw [List.filter_cons_of_neg (by simp [e])]
      rw [h1, wakeAll, if_neg (by rw [e, hs]; decide)]
      exact ih s hs
    · have h1 : off t (w :: r) = w :: off t r := by unfold off; rw [List.filter_cons_of_pos (by simp [e])]
      rw [h1, wakeAll, wakeAll]
      have h2 : (Pp.wake s w.1).asks t = none := by
        unfold Pp.wake
        simp only
        rw [if_neg fun e2 => e e2.symm, hs]
      rw [ih _ h2, ih _ hs]
/-- The shut channel's state; those that wait still stand there. -/
def shutV (k : Nat) (s : St) : St := ⟨s.chs.modify k fun c => { c with shut := true }, s.asks⟩
theorem clr_shut (k : Nat) (s : St) : clr k (shutV k s) = ⟨s.chs.modify k fun c => { c with shut := true, recvs := [] }, s.asks⟩ := by
  unfold clr shutV
  simp only
  congr 1
  apply List.ext_getElem?
  intro j
  rw [List.getElem?_modify, List.getElem?_modify, List.getElem?_modify]
  cases s.chs[j]? with
  | none => rfl
  | some c => by_cases e : k = j <;> simp [e]
theorem Ok.shutV {s : St} (ok : Ok s) (k : Nat) : Ok (shutV k s) := ok.modify k (fun c => { c with shut := true }) (fun _ _ e => e) (fun _ _ e => e) fun c hc => ⟨rfl, (ok.caps _ c hc).2⟩
theorem Rel.shutV {s : St} {ws : List (Int × List Tk)} (h : Rel s ws) (k : Nat) : Rel (shutV k s) ws := h.modify k _ (fun _ => rfl) fun _ => rfl
/-- Where a close stands: the state, those that wait, and who went on. -/
structure CloseR (s : St) (c : Int) (k : Nat) (si : St) (ws : List (Int × List Tk)) (acc : List Wk) : Prop where
  ok : Ok si
  rel : Rel si ws
  len : k < si.chs.length
  eq : Pp.close s c = ⟨(wakeAll (clr k si) (rowR ws 10 ((k : Int) + 1))).1, 0, acc ++ (wakeAll (clr k si) (rowR ws 10 ((k : Int) + 1))).2, 0⟩
theorem CloseR.start {s : St} {ws : List (Int × List Tk)} {k : Nat} {x : Ch} (ok : Ok s) (h : Rel s ws) (hx : s.chs[k]? = some x) (hs : x.shut = false) (h0 : x.sends = []) : CloseR s ((k : Int) + 1) k (shutV k s) ws [] := by
  have hk := (List.getElem?_eq_some_iff.1 hx).1
  refine ⟨ok.shutV k, h.shutV k, by unfold Pp.shutV; simpa using hk, ?_⟩
  have hm : may s.chs.length ((k : Int) + 1) = true := by unfold may; simp; omega
  have hc : chan s.chs ((k : Int) + 1) = some x := by
    unfold chan
    rw [if_neg (by omega), show ((k : Int) + 1 - 1).toNat = k by omega, hx]
  unfold Pp.close
  rw [if_neg (by rw [hm]; decide), hc]
  simp only
  rw [if_neg (by rw [hs]; decide), if_neg (by rw [h0]; decide), show ((k : Int) + 1 - 1).toNat = k by omega, clr_shut, (h.rows k x hx).2]
  simp
theorem CloseR.head {s : St} {c : Int} {k : Nat} {si : St} {ws : List (Int × List Tk)} {acc : List Wk} (h : CloseR s c k si ws acc) {y : Int × Nat} (hy : y ∈ rowR ws 10 ((k : Int) + 1)) : ∃ l, si.asks y.1 = some l := by
  obtain ⟨x, hx⟩ : ∃ x, si.chs[k]? = some x := ⟨_, List.getElem?_eq_getElem h.len⟩
  rw [← (h.rel.rows k x hx).2] at hy
  obtain ⟨l, z, h1, _⟩ := h.ok.recvs k x hx y hy
  exact ⟨l, h1⟩
theorem wake_chs (s : St) (t : Int) : (Pp.wake s t).chs.length = s.chs.length := by unfold Pp.wake; exact strike_len _ _ _
theorem CloseR.step {s : St} {c : Int} {k : Nat} {si : St} {ws : List (Int × List Tk)} {acc : List Wk} (h : CloseR s c k si ws acc) {y : Int × Nat} {r : List (Int × Nat)} (hy : rowR ws 10 ((k : Int) + 1) = y :: r) :
    CloseR s c k (Pp.wake si y.1) (ws.filter fun w => decide (w.1 ≠ y.1)) (acc ++ [⟨y.1, y.2, 0⟩]) := by
  obtain ⟨l, hl⟩ := h.head (y := y) (by rw [hy]; exact List.mem_cons_self)
  refine ⟨h.ok.wake hl, h.rel.wake h.ok hl, by rw [wake_chs]; exact h.len, ?_⟩
  have h1 : rowR (ws.filter fun w => decide (w.1 ≠ y.1)) 10 ((k : Int) + 1) = off y.1 r := by
    rw [rowR_filter, hy]
    unfold off
    rw [List.filter_cons_of_neg (by simp)]
  have hn : (clr k (Pp.wake si y.1)).asks y.1 = none := by unfold clr Pp.wake; simp
  rw [h1, wakeAll_off _ _ _ hn, h.eq, hy, wakeAll, if_pos (by unfold clr; simp only; rw [hl]; rfl), wake_clr]
  simp
theorem CloseR.fin {s : St} {c : Int} {k : Nat} {si : St} {ws : List (Int × List Tk)} {acc : List Wk} (h : CloseR s c k si ws acc) (hy : rowR ws 10 ((k : Int) + 1) = []) : Pp.close s c = ⟨si, 0, acc, 0⟩ := by
  have hc : clr k si = si := by
    unfold clr
    have : si.chs.modify k (fun c => { c with recvs := [] }) = si.chs := by
      apply List.ext_getElem?
      intro j
      rw [List.getElem?_modify]
      cases hj : si.chs[j]? with
      | none => rfl
      | some x =>
        by_cases e : k = j
        · subst e
          have := (h.rel.rows k x hj).2
          rw [hy] at this
          obtain ⟨a1, a2, a3, a4, a5⟩ := x
          simp only at this
          subst this
          simp
        · simp [e]
    rw [this]
  rw [h.eq, hy, wakeAll, hc]
  simp
end Pp
end Go.Proofs.YtppbmhpbbiigaaaDoor
