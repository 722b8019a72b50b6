/-
  Texts of one proof, in build order: Plain mathematics: channels, and tasks that wait at them. No program. | Plain mathematics: a task that waits, and channels that are shut. No program. | Plain mathematics: what comes of talks is as it may be. No program. | Plain mathematics: a channel is shut; those that wait go on, in their order. No program. | Plain mathematics: who goes on waited, and waits no more; one at most. No program. | Plain mathematics: tasks that ask, one at a time, and what comes of it. No program. | Plain mathematics: what holds of a room behind each turn. No program. | Plain mathematics: what holds of a room stays, whatever a task asks for. No program. | Plain mathematics: how far one turn of a room goes. No program. | Plain mathematics: what a room tells of tasks that begin. No program. | Plain mathematics: what a room tells of numbers that are sent and received. No program.
-/
namespace Go.Proofs.YtnjdmijcoadidaaGreatDoor
namespace Pp

structure Tk where
  what : Int
  chan : Int
  n : Int
structure Ch where
  size : Nat
  nums : List Int
  shut : Bool
  sends : List (Int × Nat)
  recvs : List (Int × Nat)
structure St where
  chs : List Ch
  asks : Int → Option (List Tk)
/-- A task that goes on: which one, at which case, with what. -/
structure Wk where
  task : Int
  case : Nat
  n : Int

def zero : St := ⟨[], fun _ => none⟩
def newCh (n : Nat) : Ch := ⟨n, [], false, [], []⟩
def Ch.free (c : Ch) (what : Int) : Bool := c.shut || (if what = 3 then (decide (0 < c.recvs.length) || decide (c.nums.length < c.size)) else (decide (0 < c.nums.length) || decide (0 < c.sends.length)))
def may (m : Nat) (c : Int) : Bool := decide (0 ≤ c) && decide (c ≤ (m : Int))
/-- The channel of a number. -/
def chan (chs : List Ch) (c : Int) : Option Ch := if c = 0 then none else chs[(c - 1).toNat]?
/-- Which one is an Else, and what is wrong first. -/
def other (m : Nat) : List Tk → Nat → Int → Int × Int
  | [], _, o => (o, 0)
  | t :: l, k, o =>
    if t.what = 40 then (if 0 ≤ o then (-1, 9) else other m l (k + 1) (k : Int))
    else if t.what ≠ 3 ∧ t.what ≠ 10 then (-1, 1)
    else if may m t.chan = false then (-1, 2) else other m l (k + 1) o
def isFree (chs : List Ch) (t : Tk) : Bool := decide (t.what ≠ 40) && (match chan chs t.chan with | none => false | some c => c.free t.what)
def frees (chs : List Ch) : List Tk → Nat → List Nat
  | [], _ => []
  | t :: l, k => if isFree chs t then k :: frees chs l (k + 1) else frees chs l (k + 1)
def drawn (draw : Int) (many : Nat) : Nat := (draw % (many : Int)).toNat
def off (task : Int) (r : List (Int × Nat)) : List (Int × Nat) := r.filter fun w => decide (w.1 ≠ task)
def Ch.strike (task what : Int) (c : Ch) : Ch := if what = 3 then { c with sends := off task c.sends } else { c with recvs := off task c.recvs }
def strikeAt (task : Int) (chs : List Ch) (t : Tk) : List Ch := if t.chan = 0 then chs else chs.modify (t.chan - 1).toNat (Ch.strike task t.what)
def strike (task : Int) (l : List Tk) (chs : List Ch) : List Ch := l.foldl (strikeAt task) chs
def wake (s : St) (task : Int) : St := ⟨strike task ((s.asks task).getD []) s.chs, fun x => if x = task then none else s.asks x⟩
def setNums (s : St) (k : Nat) (nums : List Int) : St := ⟨s.chs.modify k fun c => { c with nums := nums }, s.asks⟩
/-- What comes of a send, and of a receive, at the channel in the k-th place. -/
structure Got where
  st : St
  n : Int
  wakes : List Wk
  err : Int
def send (s : St) (k : Nat) (c : Ch) (n : Int) : Got :=
  if c.shut then ⟨s, 0, [], 13⟩
  else match c.recvs with
    | w :: _ => ⟨wake s w.1, 0, [⟨w.1, w.2, n⟩], 0⟩
    | [] => if c.nums.length = c.size then ⟨s, 0, [], 12⟩ else ⟨setNums s k (c.nums ++ [n]), 0, [], 0⟩
def sent (s : St) (w : Int × Nat) : Int := ((((s.asks w.1).getD [])[w.2]?).map Tk.n).getD 0
def recv (s : St) (k : Nat) (c : Ch) : Got :=
  match c.nums, c.sends with
  | [], [] => ⟨s, 0, [], 0⟩
  | [], w :: _ => ⟨wake s w.1, sent s w, [⟨w.1, w.2, 0⟩], 0⟩
  | x :: r, [] => ⟨setNums s k r, x, [], 0⟩
  | x :: r, w :: _ => ⟨setNums (wake (setNums s k r) w.1) k (r ++ [sent s w]), x, [⟨w.1, w.2, 0⟩], 0⟩
def doT (s : St) (t : Tk) : Got :=
  match s.chs[(t.chan - 1).toNat]? with
  | none => ⟨s, 0, [], 0⟩
  | some c => if t.what = 10 then recv s (t.chan - 1).toNat c else send s (t.chan - 1).toNat c t.n
def Ch.lay (task what : Int) (k : Nat) (c : Ch) : Ch := if what = 3 then { c with sends := c.sends ++ [(task, k)] } else { c with recvs := c.recvs ++ [(task, k)] }
def layAt (task : Int) (chs : List Ch) (t : Tk) (k : Nat) : List Ch := if t.chan = 0 then chs else chs.modify (t.chan - 1).toNat (Ch.lay task t.what k)
def lay (task : Int) : List Ch → List Tk → Nat → List Ch
  | chs, [], _ => chs
  | chs, t :: l, k => lay task (layAt task chs t k) l (k + 1)
def wait (s : St) (task : Int) (l : List Tk) : St := ⟨lay task s.chs l 0, fun x => if x = task then some l else s.asks x⟩
/-- What comes of a talk. -/
structure Told where
  st : St
  case : Int
  n : Int
  wakes : List Wk
  waits : Bool
  err : Int
def talk (s : St) (task : Int) (l : List Tk) (draw : Int) : Told :=
  if (s.asks task).isSome then ⟨s, 0, 0, [], false, 6⟩
  else if 6 < l.length then ⟨s, 0, 0, [], false, 4⟩
  else if (other s.chs.length l 0 (-1)).2 ≠ 0 then ⟨s, 0, 0, [], false, (other s.chs.length l 0 (-1)).2⟩
  else if 0 < (frees s.chs l 0).length then
    let k := (frees s.chs l 0).getD (drawn draw (frees s.chs l 0).length) 0
    let g := doT s (l.getD k ⟨0, 0, 0⟩)
    if g.err ≠ 0 then ⟨g.st, 0, 0, [], false, g.err⟩ else ⟨g.st, (k : Nat), g.n, g.wakes, false, 0⟩
  else if 0 ≤ (other s.chs.length l 0 (-1)).1 then ⟨s, (other s.chs.length l 0 (-1)).1, 0, [], false, 0⟩
  else ⟨wait s task l, 0, 0, [], true, 0⟩
/-- Those of a row that go on, each once. -/
def wakeAll : St → List (Int × Nat) → St × List Wk
  | s, [] => (s, [])
  | s, w :: r => if (s.asks w.1).isSome then ((wakeAll (wake s w.1) r).1, ⟨w.1, w.2, 0⟩ :: (wakeAll (wake s w.1) r).2) else wakeAll s r
def close (s : St) (c : Int) : Got :=
  if may s.chs.length c = false then ⟨s, 0, [], 2⟩
  else match chan s.chs c with
    | none => ⟨s, 0, [], 1⟩
    | some x => if x.shut then ⟨s, 0, [], 1⟩ else if 0 < x.sends.length then ⟨s, 0, [], 13⟩
      else
        let r := wakeAll ⟨s.chs.modify (c - 1).toNat fun c => { c with shut := true, recvs := [] }, s.asks⟩ x.recvs
        ⟨r.1, 0, r.2, 0⟩

/-- What holds of all that waits. -/
structure Ok (s : St) : Prop where
  talks : ∀ t l, s.asks t = some l → l.length ≤ 6 ∧ ∀ x ∈ l, (0 ≤ x.chan ∧ x.chan ≤ s.chs.length) ∧ (x.what = 3 ∨ x.what = 10)
  sends : ∀ (k : Nat) c, s.chs[k]? = some c → ∀ w ∈ c.sends, ∃ l x, s.asks w.1 = some l ∧ l[w.2]? = some x ∧ x.what = 3 ∧ x.chan = (k : Int) + 1
  recvs : ∀ (k : Nat) c, s.chs[k]? = some c → ∀ w ∈ c.recvs, ∃ l x, s.asks w.1 = some l ∧ l[w.2]? = some x ∧ x.what = 10 ∧ x.chan = (k : Int) + 1
  caps : ∀ (k : Nat) c, s.chs[k]? = some c → c.size ≤ 8 ∧ c.nums.length ≤ c.size
  many : s.chs.length ≤ 32
theorem Ok.zero : Ok zero := ⟨fun _ _ h => (by cases h), fun _ _ h => (by cases h), fun _ _ h => (by cases h), fun _ _ h => (by cases h), Nat.zero_le _⟩

theorem strikeAt_len (task : Int) (chs : List Ch) (t : Tk) : (strikeAt task chs t).length = chs.length := by unfold strikeAt; split <;> simp
theorem strike_len (task : Int) (l : List Tk) (chs : List Ch) : (strike task l chs).length = chs.length := by
  unfold strike
  induction l generalizing chs with
  | nil => rfl
  | cons t l ih => rw [List.foldl_cons, ih, strikeAt_len]
/-- What a channel keeps of its rows. -/
structure Less (task : Int) (l : List Tk) (k : Nat) (c c' : Ch) : Prop where
  size : c'.size = c.size
  nums : c'.nums = c.nums
  shut : c'.shut = c.shut
  sends : c'.sends = c.sends ∨ c'.sends = off task c.sends
  recvs : c'.recvs = c.recvs ∨ c'.recvs = off task c.recvs
  sends' : (∃ x ∈ l, x.what = 3 ∧ x.chan = (k : Int) + 1) → c'.sends = off task c.sends
  recvs' : (∃ x ∈ l, x.what ≠ 3 ∧ x.chan = (k : Int) + 1) → c'.recvs = off task c.recvs
theorem off_off (task : Int) (r : List (Int × Nat)) : off task (off task r) = off task r := by simp [off, List.filter_filter]
theorem mem_off {task : Int} {r : List (Int × Nat)} {w : Int × Nat} : w ∈ off task r ↔ w ∈ r ∧ w.1 ≠ task := by simp [off]
theorem strikeAt_get {task : Int} {chs : List Ch} {t : Tk} {k : Nat} {c : Ch} (h : chs[k]? = some c) (ht : 0 ≤ t.chan) :
    (strikeAt task chs t)[k]? = some (if t.chan = (k : Int) + 1 then c.strike task t.what else c) := by
  unfold strikeAt
  by_cases h0 : t.chan = 0
  · rw [if_pos h0, if_neg (by omega)]; exact h
  · rw [if_neg h0, List.getElem?_modify, h]
    by_cases e : t.chan = (k : Int) + 1
    · rw [if_pos e]
      have : (t.chan - 1).toNat = k := by omega
      simp [this]
    · rw [if_neg e]
      simp
      intro e2
      exact absurd e2 (by omega)
theorem strike_get {task : Int} {l : List Tk} (hl : ∀ x ∈ l, 0 ≤ x.chan) {chs : List Ch} {k : Nat} {c : Ch} (h : chs[k]? = some c) : ∃ c', (strike task l chs)[k]? = some c' ∧ Less task l k c c' := by
  unfold strike
  induction l generalizing chs c with
  | nil => exact ⟨c, h, rfl, rfl, rfl, Or.inl rfl, Or.inl rfl, fun ⟨_, h, _⟩ => (by cases h), fun ⟨_, h, _⟩ => (by cases h)⟩
  | cons t l ih =>
    rw [List.foldl_cons]
    obtain ⟨c', h1, h2⟩ := ih (fun x hx => hl x (List.mem_cons_of_mem _ hx)) (strikeAt_get h (hl t List.mem_cons_self))
    refine ⟨c', h1, ?_⟩
    by_cases e : t.chan = (k : Int) + 1
    · rw [if_pos e] at h2
      unfold Ch.strike at h2
      by_cases e3 : t.what = 3
      · rw [if_pos e3] at h2
        have hs : c'.sends = off task c.sends := by
          rcases h2.sends with h3 | h3
          · exact h3
          · rw [h3]; exact off_off _ _
        exact ⟨h2.size, h2.nums, h2.shut, Or.inr hs, h2.recvs, fun _ => hs, fun ⟨x, hx, h5, h6⟩ => by
          rcases List.mem_cons.1 hx with rfl | hx
          · exact absurd e3 h5
          · exact h2.recvs' ⟨x, hx, h5, h6⟩⟩
      · rw [if_neg e3] at h2
        have hs : c'.recvs = off task c.recvs := by
          rcases h2.recvs with h3 | h3
          · exact h3
          · rw [h3]; exact off_off _ _
        exact ⟨h2.size, h2.nums, h2.shut, h2.sends, Or.inr hs, fun ⟨x, hx, h5, h6⟩ => by
          rcases List.mem_cons.1 hx with rfl | hx
          · exact absurd h5 e3
          · exact h2.sends' ⟨x, hx, h5, h6⟩, fun _ => hs⟩
    · rw [if_neg e] at h2
      exact ⟨h2.size, h2.nums, h2.shut, h2.sends, h2.recvs, fun ⟨x, hx, h5, h6⟩ => by
          rcases List.mem_cons.1 hx with rfl | hx
          · exact absurd h6 e
          · exact h2.sends' ⟨x, hx, h5, h6⟩, fun ⟨x, hx, h5, h6⟩ => by
          rcases List.mem_cons.1 hx with rfl | hx
          · exact absurd h6 e
          · exact h2.recvs' ⟨x, hx, h5, h6⟩⟩
theorem get_strike {task : Int} {l : List Tk} (hl : ∀ x ∈ l, 0 ≤ x.chan) {chs : List Ch} {k : Nat} {c' : Ch} (h : (strike task l chs)[k]? = some c') : ∃ c, chs[k]? = some c ∧ Less task l k c c' := by
  have hk : k < chs.length := by rw [← strike_len task l chs]; exact (List.getElem?_eq_some_iff.1 h).1
  obtain ⟨c2, h1, h2⟩ := strike_get (task := task) hl (List.getElem?_eq_getElem hk)
  rw [h] at h1
  cases h1
  exact ⟨_, List.getElem?_eq_getElem hk, h2⟩
theorem Ok.le {s : St} (h : Ok s) {task : Int} {l : List Tk} (hl : s.asks task = some l) : ∀ x ∈ l, 0 ≤ x.chan := fun x hx => ((h.talks _ _ hl).2 x hx).1.1
theorem wake_some {s : St} {task : Int} {l : List Tk} (hl : s.asks task = some l) : wake s task = ⟨strike task l s.chs, fun x => if x = task then none else s.asks x⟩ := by unfold wake; rw [hl]; rfl
theorem Ok.wake {s : St} (h : Ok s) {task : Int} {l : List Tk} (hl : s.asks task = some l) : Ok (wake s task) := by
  rw [wake_some hl]
  have hlen := strike_len task l s.chs
  refine ⟨fun t m hm => ?_, fun k c hc w hw => ?_, fun k c hc w hw => ?_, fun k c hc => ?_, by rw [hlen]; exact h.many⟩
  · simp only at hm
    split at hm
    · cases hm
    · rw [hlen]; exact h.talks t m hm
  · obtain ⟨c0, h0, h1⟩ := get_strike (h.le hl) hc
    have hw0 : w ∈ c0.sends := by rcases h1.sends with e | e <;> rw [e] at hw; exact hw; exact (mem_off.1 hw).1
    obtain ⟨m, x, h2, h3, h4, h5⟩ := h.sends k c0 h0 w hw0
    have hne : w.1 ≠ task := fun e => by
      rw [e, hl] at h2
      cases h2
      rw [h1.sends' ⟨x, List.mem_of_getElem? h3, h4, h5⟩] at hw
      exact (mem_off.1 hw).2 e
    exact ⟨m, x, by simp only; rw [if_neg hne]; exact h2, h3, h4, h5⟩
  · obtain ⟨c0, h0, h1⟩ := get_strike (h.le hl) hc
    have hw0 : w ∈ c0.recvs := by rcases h1.recvs with e | e <;> rw [e] at hw; exact hw; exact (mem_off.1 hw).1
    obtain ⟨m, x, h2, h3, h4, h5⟩ := h.recvs k c0 h0 w hw0
    have hne : w.1 ≠ task := fun e => by
      rw [e, hl] at h2
      cases h2
      rw [h1.recvs' ⟨x, List.mem_of_getElem? h3, by rw [h4]; decide, h5⟩] at hw
      exact (mem_off.1 hw).2 e
    exact ⟨m, x, by simp only; rw [if_neg hne]; exact h2, h3, h4, h5⟩
  · obtain ⟨c0, h0, h1⟩ := get_strike (h.le hl) hc
    rw [h1.size, h1.nums]; exact h.caps k c0 h0
/-- Other numbers, or shut: what waits is what waited. -/
theorem Ok.modify {s : St} (h : Ok s) (j : Nat) (f : Ch → Ch) (hs : ∀ c w, w ∈ (f c).sends → w ∈ c.sends) (hr : ∀ c w, w ∈ (f c).recvs → w ∈ c.recvs) (hc : ∀ c, s.chs[j]? = some c → (f c).size = c.size ∧ (f c).nums.length ≤ c.size) : Ok ⟨s.chs.modify j f, s.asks⟩ := by
  have key : ∀ (k : Nat) c, (s.chs.modify j f)[k]? = some c → ∃ c0, s.chs[k]? = some c0 ∧ (c = c0 ∨ (k = j ∧ c = f c0)) := fun k c hk => by
    rw [List.getElem?_modify] at hk
    obtain ⟨c0, h1, h2⟩ := Option.map_eq_some_iff.1 hk
    by_cases e : j = k
    · simp [e] at h2
      exact ⟨c0, h1, Or.inr ⟨e.symm, h2.symm⟩⟩
    · simp [e] at h2
      exact ⟨c0, h1, Or.inl h2.symm⟩
  refine ⟨fun t m hm => ?_, fun k c hk w hw => ?_, fun k c hk w hw => ?_, fun k c hk => ?_, ?_⟩
  · simp only [List.length_modify]; exact h.talks t m hm
  · obtain ⟨c0, h1, h2⟩ := key k c hk
    refine h.sends k c0 h1 w ?_
    rcases h2 with rfl | ⟨_, rfl⟩
    · exact hw
    · exact hs _ _ hw
  · obtain ⟨c0, h1, h2⟩ := key k c hk
    refine h.recvs k c0 h1 w ?_
    rcases h2 with rfl | ⟨_, rfl⟩
    · exact hw
    · exact hr _ _ hw
  · obtain ⟨c0, h1, h2⟩ := key k c hk
    rcases h2 with rfl | ⟨rfl, rfl⟩
    · exact h.caps _ _ h1
    · obtain ⟨h3, h4⟩ := hc c0 h1
      rw [h3]; exact ⟨(h.caps _ _ h1).1, h4⟩
  · simp only [List.length_modify]; exact h.many
theorem Ok.nums {s : St} (h : Ok s) (j : Nat) (nums : List Int) (hc : ∀ c, s.chs[j]? = some c → nums.length ≤ c.size) : Ok (setNums s j nums) := h.modify j _ (fun _ _ h => h) (fun _ _ h => h) fun c hk => ⟨rfl, hc c hk⟩
/-- One more channel. -/
theorem Ok.make {s : St} (h : Ok s) {n : Nat} (hn : n ≤ 8) (hm : s.chs.length < 32) : Ok ⟨s.chs ++ [newCh n], s.asks⟩ := by
  have key : ∀ (k : Nat) c, (s.chs ++ [newCh n])[k]? = some c → s.chs[k]? = some c ∨ c = newCh n := fun k c hk => by
    rw [List.getElem?_append] at hk
    split at hk
    · exact Or.inl hk
    · rcases hj : k - s.chs.length with _ | j
      · rw [hj] at hk; cases hk; exact Or.inr rfl
      · rw [hj] at hk; simp at hk
  refine ⟨fun t m hm => ?_, fun k c hk w hw => ?_, fun k c hk w hw => ?_, fun k c hk => ?_, by simp; omega⟩
  · refine ⟨(h.talks t m hm).1, fun x hx => ⟨⟨((h.talks t m hm).2 x hx).1.1, ?_⟩, ((h.talks t m hm).2 x hx).2⟩⟩
    have := ((h.talks t m hm).2 x hx).1.2
    simp; omega
  · rcases key k c hk with h1 | rfl
    · exact h.sends k c h1 w hw
    · cases hw
  · rcases key k c hk with h1 | rfl
    · exact h.recvs k c h1 w hw
    · cases hw
  · rcases key k c hk with h1 | rfl
    · exact h.caps k c h1
    · exact ⟨hn, Nat.zero_le _⟩
end Pp
end Go.Proofs.YtnjdmijcoadidaaGreatDoor

namespace Go.Proofs.YtnjdmijcoadidaaGreatDoor
namespace Pp

/-- Where a task stands in a row. -/
def rowT (task what chan : Int) : List Tk → Nat → List (Int × Nat)
  | [], _ => []
  | t :: l, i => if t.what = what ∧ t.chan = chan then (task, i) :: rowT task what chan l (i + 1) else rowT task what chan l (i + 1)
theorem mem_rowT {task what chan : Int} {l : List Tk} {i : Nat} {w : Int × Nat} (h : w ∈ rowT task what chan l i) : w.1 = task ∧ i ≤ w.2 ∧ ∃ x, l[w.2 - i]? = some x ∧ x.what = what ∧ x.chan = chan := by
  induction l generalizing i with
  | nil => cases h
  | cons t l ih =>
    have go : w ∈ rowT task what chan l (i + 1) → w.1 = task ∧ i ≤ w.2 ∧ ∃ x, (t :: l)[w.2 - i]? = some x ∧ x.what = what ∧ x.chan = chan := fun h => by
      obtain ⟨h1, h2, x, h3, h4⟩ := ih h
      refine ⟨h1, by omega, x, ?_, h4⟩
      rw [show w.2 - i = (w.2 - (i + 1)) + 1 by omega, List.getElem?_cons_succ]; exact h3
    unfold rowT at h
    split at h
    · rcases List.mem_cons.1 h with rfl | h
      · exact ⟨rfl, Nat.le_refl _, t, by simp, by assumption⟩
      · exact go h
    · exact go h
theorem rowT_len (task what chan : Int) (l : List Tk) (i : Nat) : (rowT task what chan l i).length ≤ l.length := by
  induction l generalizing i with
  | nil => exact Nat.le_refl _
  | cons t l ih =>
    have := ih (i + 1)
    unfold rowT
    split <;> simp <;> omega
def Tk.good (m : Nat) (x : Tk) : Prop := (0 ≤ x.chan ∧ x.chan ≤ m) ∧ (x.what = 3 ∨ x.what = 10)
theorem layAt_len (task : Int) (chs : List Ch) (t : Tk) (i : Nat) : (layAt task chs t i).length = chs.length := by unfold layAt; split <;> simp
theorem lay_len (task : Int) (l : List Tk) (chs : List Ch) (i : Nat) : (lay task chs l i).length = chs.length := by
  induction l generalizing chs i with
  | nil => rfl
  | cons t l ih => rw [lay, ih, layAt_len]
theorem layAt_get {task : Int} {chs : List Ch} {t : Tk} {i k : Nat} {c : Ch} (h : chs[k]? = some c) (ht : 0 ≤ t.chan) :
    (layAt task chs t i)[k]? = some (if t.chan = (k : Int) + 1 then c.lay task t.what i else c) := by
  unfold layAt
  by_cases h0 : t.chan = 0
  · rw [if_pos h0, if_neg (by omega)]; exact h
  · rw [if_neg h0, List.getElem?_modify, h]
    by_cases e : t.chan = (k : Int) + 1
    · rw [if_pos e]
      have : (t.chan - 1).toNat = k := by omega
      simp [this]
    · rw [if_neg e]
      simp
      intro e2
      exact absurd e2 (by omega)
theorem lay_get {task : Int} {m : Nat} {l : List Tk} (hl : ∀ x ∈ l, x.good m) {chs : List Ch} {i k : Nat} {c : Ch} (h : chs[k]? = some c) :
    (lay task chs l i)[k]? = some { c with sends := c.sends ++ rowT task 3 ((k : Int) + 1) l i, recvs := c.recvs ++ rowT task 10 ((k : Int) + 1) l i } := by
  induction l generalizing chs i c with
  | nil => simp [lay, rowT, h]
  | cons t l ih =>
    have hg := hl t List.mem_cons_self
    rw [lay, ih (fun x hx => hl x (List.mem_cons_of_mem _ hx)) (layAt_get h hg.1.1)]
    congr 1
    by_cases e : t.chan = (k : Int) + 1
    · rw [if_pos e]
      rcases hg.2 with e3 | e3
      · simp [Ch.lay, rowT, e, e3]
      · simp [Ch.lay, rowT, e, e3]
    · rw [if_neg e]
      simp [rowT, e]
theorem get_lay {task : Int} {m : Nat} {l : List Tk} (hl : ∀ x ∈ l, x.good m) {chs : List Ch} {i k : Nat} {c' : Ch} (h : (lay task chs l i)[k]? = some c') :
    ∃ c, chs[k]? = some c ∧ c' = { c with sends := c.sends ++ rowT task 3 ((k : Int) + 1) l i, recvs := c.recvs ++ rowT task 10 ((k : Int) + 1) l i } := by
  have hk : k < chs.length := by rw [← lay_len task l chs i]; exact (List.getElem?_eq_some_iff.1 h).1
  have := lay_get (task := task) (i := i) hl (List.getElem?_eq_getElem hk)
  rw [h] at this
  exact ⟨_, List.getElem?_eq_getElem hk, by injection this⟩
theorem Ok.wait {s : St} (h : Ok s) {task : Int} {l : List Tk} (hn : s.asks task = none) (hl : ∀ x ∈ l, x.good s.chs.length) (h6 : l.length ≤ 6) : Ok (wait s task l) := by
  have hlen := lay_len task l s.chs 0
  have old : ∀ {t : Int} {m : List Tk}, s.asks t = some m → (Pp.wait s task l).asks t = some m := fun {t m} ht => by
    unfold Pp.wait; simp only; rw [if_neg (fun e => by rw [e, hn] at ht; cases ht)]; exact ht
  refine ⟨fun t m hm => ?_, fun k c hc w hw => ?_, fun k c hc w hw => ?_, fun k c hc => ?_, by unfold Pp.wait; simp only; rw [hlen]; exact h.many⟩
  · unfold Pp.wait at hm ⊢
    simp only at hm ⊢
    rw [hlen]
    split at hm
    · cases hm; exact ⟨h6, hl⟩
    · exact h.talks t m hm
  · obtain ⟨c0, h0, rfl⟩ := get_lay hl hc
    rcases List.mem_append.1 hw with h1 | h1
    · obtain ⟨m, x, h2, h3⟩ := h.sends k c0 h0 w h1
      exact ⟨m, x, old h2, h3⟩
    · obtain ⟨h2, _, x, h3, h4, h5⟩ := mem_rowT h1
      exact ⟨l, x, by unfold Pp.wait; simp only; rw [if_pos h2], h3, h4, h5⟩
  · obtain ⟨c0, h0, rfl⟩ := get_lay hl hc
    rcases List.mem_append.1 hw with h1 | h1
    · obtain ⟨m, x, h2, h3⟩ := h.recvs k c0 h0 w h1
      exact ⟨m, x, old h2, h3⟩
    · obtain ⟨h2, _, x, h3, h4, h5⟩ := mem_rowT h1
      exact ⟨l, x, by unfold Pp.wait; simp only; rw [if_pos h2], h3, h4, h5⟩
  · obtain ⟨c0, h0, rfl⟩ := get_lay hl hc
    exact h.caps k c0 h0
theorem Ok.wakeAll {s : St} (h : Ok s) (r : List (Int × Nat)) : Ok (wakeAll s r).1 := by
  induction r generalizing s with
  | nil => exact h
  | cons w r ih =>
    unfold Pp.wakeAll
    cases hw : s.asks w.1 with
    | none => simpa using ih h
    | some l => simpa using ih (h.wake hw)
/-- All that a row of talks may hold that stands where no Else and nothing wrong is. -/
theorem other_good {m : Nat} {l : List Tk} {k : Nat} {o : Int} (h : (other m l k o).2 = 0) (hn : (other m l k o).1 < 0) (ho : o < 0) : ∀ x ∈ l, x.good m := by
  induction l generalizing k o with
  | nil => intro x hx; cases hx
  | cons t l ih =>
    unfold other at h hn
    by_cases e : t.what = 40
    · rw [if_pos e, if_neg (by omega)] at h hn
      exfalso
      have key : ∀ (l : List Tk) (k : Nat) (o : Int), 0 ≤ o → (other m l k o).2 = 0 → 0 ≤ (other m l k o).1 := by
        intro l
        induction l with
        | nil => intro k o ho _; exact ho
        | cons t l ih =>
          intro k o ho h
          unfold other at h ⊢
          split at h
          · exact absurd h (by decide)
          · rename_i e1
            rw [if_neg e1]
            split at h
            · cases h
            · rename_i e2
              rw [if_neg e2]
              split at h
              · cases h
              · rename_i e3
                rw [if_neg e3]
                exact ih _ _ ho h
      have := key l (k + 1) k (by omega) h
      omega
    · rw [if_neg e] at h hn
      split at h
      · cases h
      · rename_i e2
        rw [if_neg e2] at hn
        split at h
        · cases h
        · rename_i e3
          rw [if_neg e3] at hn
          intro x hx
          rcases List.mem_cons.1 hx with rfl | hx
          · refine ⟨?_, ?_⟩
            · unfold may at e3; simp at e3; exact e3
            · rcases Classical.em (x.what = 3) with h5 | h5
              · exact Or.inl h5
              · exact Or.inr (Classical.byContradiction fun h6 => e2 ⟨h5, h6⟩)
          · exact ih h hn ho x hx
end Pp
end Go.Proofs.YtnjdmijcoadidaaGreatDoor

namespace Go.Proofs.YtnjdmijcoadidaaGreatDoor
namespace Pp

theorem mem_frees {chs : List Ch} : ∀ {l : List Tk} {i k : Nat}, k ∈ frees chs l i → i ≤ k ∧ ∃ x, l[k - i]? = some x ∧ isFree chs x = true
  | [], _, _, h => by cases h
  | t :: l, i, k, h => by
    have go : k ∈ frees chs l (i + 1) → i ≤ k ∧ ∃ x, (t :: l)[k - i]? = some x ∧ isFree chs x = true := fun h => by
      obtain ⟨h1, x, h2, h3⟩ := mem_frees h
      refine ⟨by omega, x, ?_, h3⟩
      rw [show k - i = (k - (i + 1)) + 1 by omega, List.getElem?_cons_succ]; exact h2
    unfold frees at h
    split at h
    · next hf =>
      rcases List.mem_cons.1 h with rfl | h
      · exact ⟨Nat.le_refl _, t, by simp, hf⟩
      · exact go h
    · exact go h
theorem isFree_chan {chs : List Ch} {x : Tk} (h : isFree chs x = true) (h0 : 0 ≤ x.chan) : ∃ (k : Nat) (c : Ch), x.chan = (k : Int) + 1 ∧ chs[k]? = some c ∧ c.free x.what = true ∧ x.what ≠ 40 := by
  unfold isFree chan at h
  simp only [Bool.and_eq_true, decide_eq_true_eq] at h
  obtain ⟨h1, h2⟩ := h
  by_cases hc : x.chan = 0
  · simp [hc] at h2
  · rw [if_neg hc] at h2
    refine ⟨(x.chan - 1).toNat, ?_⟩
    cases hg : chs[(x.chan - 1).toNat]? with
    | none => rw [hg] at h2; cases h2
    | some c => rw [hg] at h2; exact ⟨c, by omega, rfl, h2, h1⟩
theorem Ok.send {s : St} (h : Ok s) {k : Nat} {c : Ch} (hc : s.chs[k]? = some c) (n : Int) : Ok (Pp.send s k c n).st := by
  unfold Pp.send
  split
  · exact h
  · split
    · next w r hr =>
      obtain ⟨l, x, h1, _⟩ := h.recvs k c hc w (by rw [hr]; exact List.mem_cons_self)
      exact h.wake h1
    · split
      · exact h
      · next hn =>
        refine h.nums k _ fun c' hc' => ?_
        rw [hc] at hc'
        cases hc'
        have := (h.caps k c hc).2
        rw [List.length_append, List.length_singleton]; omega
theorem Ok.recv {s : St} (h : Ok s) {k : Nat} {c : Ch} (hc : s.chs[k]? = some c) : Ok (Pp.recv s k c).st := by
  have hcap := (h.caps k c hc).2
  unfold Pp.recv
  split
  · exact h
  · next w r hn hs =>
    obtain ⟨l, x, h1, _⟩ := h.sends k c hc w (by rw [hs]; exact List.mem_cons_self)
    exact h.wake h1
  · next x r hn hs =>
    refine h.nums k _ fun c' hc' => ?_
    rw [hc] at hc'
    cases hc'
    rw [hn, List.length_cons] at hcap; omega
  · next x r w r2 hn hs =>
    obtain ⟨l, y, h1, _⟩ := h.sends k c hc w (by rw [hs]; exact List.mem_cons_self)
    have ha : Ok (setNums s k r) := h.nums k _ fun c' hc' => by
      rw [hc] at hc'
      cases hc'
      rw [hn, List.length_cons] at hcap; omega
    have hb : Ok (Pp.wake (setNums s k r) w.1) := ha.wake (l := l) h1
    refine hb.nums k _ fun c' hc' => ?_
    rw [wake_some (s := setNums s k r) (l := l) h1] at hc'
    obtain ⟨c0, h2, h3⟩ := get_strike (ha.le h1) hc'
    unfold setNums at h2
    simp only [List.getElem?_modify, hc] at h2
    simp at h2
    rw [h3.size, ← h2]
    rw [hn, List.length_cons] at hcap
    rw [List.length_append, List.length_singleton]; exact hcap
theorem Ok.doT {s : St} (h : Ok s) (t : Tk) : Ok (Pp.doT s t).st := by
  unfold Pp.doT
  split
  · exact h
  · next c hc =>
    split
    · exact h.recv hc
    · exact h.send hc _
theorem Ok.talk {s : St} (h : Ok s) (task : Int) (l : List Tk) (draw : Int) : Ok (Pp.talk s task l draw).st := by
  unfold Pp.talk
  split
  · exact h
  · next h1 =>
    split
    · exact h
    · next h2 =>
      split
      · exact h
      · next h3 =>
        split
        · simp only
          split
          · exact h.doT _
          · exact h.doT _
        · split
          · exact h
          · next h5 =>
            refine h.wait ?_ (other_good (k := 0) (o := -1) (by omega) (by omega) (by decide)) (by omega)
            cases hs : s.asks task with
            | none => rfl
            | some m => rw [hs] at h1; exact absurd rfl h1
theorem Ok.close {s : St} (h : Ok s) (c : Int) : Ok (Pp.close s c).st := by
  unfold Pp.close
  split
  · exact h
  · split
    · exact h
    · next x hx =>
      split
      · exact h
      · split
        · exact h
        · refine Ok.wakeAll (h.modify (c - 1).toNat (fun c => { c with shut := true, recvs := [] }) (fun _ _ e => e) (fun _ _ e => absurd e List.not_mem_nil) fun c' hc' => ?_) _
          exact ⟨rfl, (h.caps _ c' hc').2⟩
end Pp
end Go.Proofs.YtnjdmijcoadidaaGreatDoor

namespace Go.Proofs.YtnjdmijcoadidaaGreatDoor
namespace Pp

theorem wakeAll_snoc (r : List (Int × Nat)) (w : Int × Nat) : ∀ s : St, wakeAll s (r ++ [w]) = if ((wakeAll s r).1.asks w.1).isSome then (wake (wakeAll s r).1 w.1, (wakeAll s r).2 ++ [⟨w.1, w.2, 0⟩]) else wakeAll s r := by
  induction r with
  | nil =>
    intro s
    rw [List.nil_append, wakeAll, wakeAll, wakeAll]
    split <;> rfl
  | cons x r ih =>
    intro s
    rw [List.cons_append, wakeAll, wakeAll]
    split
    · next h =>
      rw [ih]
      simp only
      split <;> rfl
    · exact ih s
/-- One channel; tasks 0 to k - 1 wait at it to receive. -/
def shC (size : Nat) (nums : List Int) (shut : Bool) (k : Nat) : Ch := ⟨size, nums, shut, [], (List.range k).map fun (i : Nat) => ((i : Int), 0)⟩
def shS (size : Nat) (nums : List Int) (shut : Bool) (k : Nat) : St := ⟨[shC size nums shut k], fun x => if 0 ≤ x ∧ x < k then some [⟨10, 1, 0⟩] else none⟩
theorem shS_new (size : Nat) : (⟨[newCh size], fun _ => none⟩ : St) = shS size [] false 0 := by
  unfold shS
  congr 1
  funext x
  rw [if_neg (by omega)]
theorem shS_asks {size : Nat} {nums : List Int} {shut : Bool} {k : Nat} {x : Int} (h : (k : Int) ≤ x) : (shS size nums shut k).asks x = none := by
  unfold shS
  simp only
  rw [if_neg (by omega)]
theorem chan_one (c : Ch) : chan [c] 1 = some c := rfl
theorem may_one : may 1 1 = true := by decide
theorem talk_send {size : Nat} {nums : List Int} (h : nums.length < size) (t : Int) (ht : 0 ≤ t) (v : Int) : talk (shS size nums false 0) t [⟨3, 1, v⟩] 0 = ⟨shS size (nums ++ [v]) false 0, 0, 0, [], false, 0⟩ := by
  have ha := shS_asks (size := size) (nums := nums) (shut := false) (k := 0) (x := t) (by omega)
  have ho : other (shS size nums false 0).chs.length [⟨3, 1, v⟩] 0 (-1) = (-1, 0) := by simp [other, shS, may]
  have hf : frees (shS size nums false 0).chs [⟨3, 1, v⟩] 0 = [0] := by simp [frees, isFree, shS, chan, Ch.free, shC, h]
  unfold talk
  rw [ha, ho, hf]
  have hd : doT (shS size nums false 0) ⟨3, 1, v⟩ = ⟨shS size (nums ++ [v]) false 0, 0, [], 0⟩ := by
    have hne : ¬ nums.length = size := by omega
    simp [doT, shS, send, shC, hne, setNums]
  simp [drawn, hd]
theorem talk_wait (size k : Nat) : talk (shS size [] false k) k [⟨10, 1, 0⟩] 0 = ⟨shS size [] false (k + 1), 0, 0, [], true, 0⟩ := by
  have ha := shS_asks (size := size) (nums := []) (shut := false) (k := k) (x := k) (by omega)
  have ho : other (shS size [] false k).chs.length [⟨10, 1, 0⟩] 0 (-1) = (-1, 0) := by simp [other, shS, may]
  have hf : frees (shS size [] false k).chs [⟨10, 1, 0⟩] 0 = [] := by simp [frees, isFree, shS, chan, Ch.free, shC]
  unfold talk
  rw [ha, ho, hf]
  have hd : wait (shS size [] false k) k [⟨10, 1, 0⟩] = shS size [] false (k + 1) := by
    unfold wait
    have h1 : lay (k : Int) (shS size [] false k).chs [⟨10, 1, 0⟩] 0 = (shS size [] false (k + 1)).chs := by
      simp [lay, layAt, shS, Ch.lay, shC, List.range_succ]
    rw [h1]
    unfold shS
    simp only
    congr 1
    funext x
    by_cases e : x = (k : Int)
    · rw [if_pos e, if_pos (by omega)]
    · rw [if_neg e]
      by_cases e2 : 0 ≤ x ∧ x < (k : Int)
      · rw [if_pos e2, if_pos (by omega)]
      · rw [if_neg e2, if_neg (by omega)]
  simp [hd]
theorem wakeAll_sh (c : Ch) (hc : c.recvs = []) (k : Nat) : ∀ j : Nat, j ≤ k → wakeAll ⟨[c], fun x => if 0 ≤ x ∧ x < (k : Int) then some [⟨10, 1, 0⟩] else none⟩ ((List.range j).map fun (i : Nat) => ((i : Int), 0)) =
    (⟨[c], fun x => if (j : Int) ≤ x ∧ x < (k : Int) then some [⟨10, 1, 0⟩] else none⟩, (List.range j).map fun (i : Nat) => ⟨(i : Int), 0, 0⟩) := by
  intro j
  induction j with
  | zero => intro _; rfl
  | succ j ih =>
    intro hj
    rw [List.range_succ, List.map_append, List.map_append, List.map_singleton, List.map_singleton, wakeAll_snoc, ih (by omega)]
    have hw : (⟨[c], fun x => if (j : Int) ≤ x ∧ x < (k : Int) then some [⟨10, 1, 0⟩] else none⟩ : St).asks (j : Int) = some [⟨10, 1, 0⟩] := by simp only; rw [if_pos (by omega)]
    rw [if_pos (by simp only; rw [if_pos (by omega)]; rfl), wake_some hw]
    have h1 : strike (j : Int) [⟨10, 1, 0⟩] [c] = [c] := by
      obtain ⟨a1, a2, a3, a4, a5⟩ := c
      simp only at hc
      subst hc
      simp [strike, strikeAt, Ch.strike, off]
    simp only [h1]
    congr 1
    congr 1
    funext x
    by_cases e : x = (j : Int)
    · rw [if_pos e, if_neg (by omega)]
    · rw [if_neg e]
      by_cases e2 : (j : Int) ≤ x ∧ x < (k : Int)
      · rw [if_pos e2, if_pos (by omega)]
      · rw [if_neg e2, if_neg (by omega)]
theorem close_sh (size : Nat) (nums : List Int) (k : Nat) : close (shS size nums false k) 1 = ⟨shS size nums true 0, 0, (List.range k).map fun (i : Nat) => ⟨(i : Int), 0, 0⟩, 0⟩ := by
  unfold close
  have hm : may (shS size nums false k).chs.length 1 = true := may_one
  rw [if_neg (by rw [hm]; decide)]
  have hch : chan (shS size nums false k).chs 1 = some (shC size nums false k) := rfl
  rw [hch]
  simp only
  rw [if_neg (by simp [shC]), if_neg (by simp [shC])]
  have hmod : (shS size nums false k).chs.modify ((1 : Int) - 1).toNat (fun c => { c with shut := true, recvs := [] }) = [⟨size, nums, true, [], []⟩] := by simp [shS, shC]
  rw [hmod]
  have := wakeAll_sh ⟨size, nums, true, [], []⟩ rfl k k (Nat.le_refl _)
  have hr : (shC size nums false k).recvs = (List.range k).map fun (i : Nat) => ((i : Int), 0) := rfl
  have hs : (shS size nums false k).asks = fun x => if 0 ≤ x ∧ x < (k : Int) then some [⟨10, 1, 0⟩] else none := rfl
  rw [hr, hs, this]
  congr 1
  unfold shS shC
  simp only
  congr 1
  funext x
  rw [if_neg (by omega), if_neg (by omega)]
theorem talk_take {size : Nat} {v : Int} {r : List Int} (t : Int) (ht : 0 ≤ t) : talk (shS size (v :: r) true 0) t [⟨10, 1, 0⟩] 0 = ⟨shS size r true 0, 0, v, [], false, 0⟩ := by
  have ha := shS_asks (size := size) (nums := v :: r) (shut := true) (k := 0) (x := t) (by omega)
  have ho : other (shS size (v :: r) true 0).chs.length [⟨10, 1, 0⟩] 0 (-1) = (-1, 0) := by simp [other, shS, may]
  have hf : frees (shS size (v :: r) true 0).chs [⟨10, 1, 0⟩] 0 = [0] := by simp [frees, isFree, shS, chan, Ch.free, shC]
  unfold talk
  rw [ha, ho, hf]
  have hd : doT (shS size (v :: r) true 0) ⟨10, 1, 0⟩ = ⟨shS size r true 0, v, [], 0⟩ := by simp [doT, shS, recv, shC, setNums]
  simp [drawn, hd]
theorem talk_none0 {size : Nat} (t : Int) (ht : 0 ≤ t) : talk (shS size [] true 0) t [⟨10, 1, 0⟩] 0 = ⟨shS size [] true 0, 0, 0, [], false, 0⟩ := by
  have ha := shS_asks (size := size) (nums := []) (shut := true) (k := 0) (x := t) (by omega)
  have ho : other (shS size [] true 0).chs.length [⟨10, 1, 0⟩] 0 (-1) = (-1, 0) := by simp [other, shS, may]
  have hf : frees (shS size [] true 0).chs [⟨10, 1, 0⟩] 0 = [0] := by simp [frees, isFree, shS, chan, Ch.free, shC]
  unfold talk
  rw [ha, ho, hf]
  have hd : doT (shS size [] true 0) ⟨10, 1, 0⟩ = ⟨shS size [] true 0, 0, [], 0⟩ := by simp [doT, shS, recv, shC]
  simp [drawn, hd]
theorem talk_shut {size : Nat} {nums : List Int} (t : Int) (ht : 0 ≤ t) (v : Int) : talk (shS size nums true 0) t [⟨3, 1, v⟩] 0 = ⟨shS size nums true 0, 0, 0, [], false, 13⟩ := by
  have ha := shS_asks (size := size) (nums := nums) (shut := true) (k := 0) (x := t) (by omega)
  have ho : other (shS size nums true 0).chs.length [⟨3, 1, v⟩] 0 (-1) = (-1, 0) := by simp [other, shS, may]
  have hf : frees (shS size nums true 0).chs [⟨3, 1, v⟩] 0 = [0] := by simp [frees, isFree, shS, chan, Ch.free, shC]
  unfold talk
  rw [ha, ho, hf]
  have hd : doT (shS size nums true 0) ⟨3, 1, v⟩ = ⟨shS size nums true 0, 0, [], 13⟩ := by simp [doT, shS, send, shC]
  simp [drawn, hd]
theorem close_shut (size : Nat) (nums : List Int) : close (shS size nums true 0) 1 = ⟨shS size nums true 0, 0, [], 1⟩ := by
  unfold close
  have hm : may (shS size nums true 0).chs.length 1 = true := may_one
  rw [if_neg (by rw [hm]; decide)]
  have hch : chan (shS size nums true 0).chs 1 = some (shC size nums true 0) := rfl
  rw [hch]
  simp only
  rw [if_pos (by simp [shC])]
end Pp
end Go.Proofs.YtnjdmijcoadidaaGreatDoor

namespace Go.Proofs.YtnjdmijcoadidaaGreatDoor
namespace Pp

/-- None goes on, and who waits is who waited; or one does, who waited. -/
def Once (s : St) (st : St) (wk : List Wk) : Prop :=
  (wk = [] ∧ ∀ x, (st.asks x).isSome = (s.asks x).isSome) ∨ ∃ w : Wk, wk = [w] ∧ (s.asks w.task).isSome = true ∧ ∀ x, (st.asks x).isSome = (!decide (x = w.task) && (s.asks x).isSome)
theorem wake_asks (s : St) (task x : Int) : ((wake s task).asks x).isSome = (!decide (x = task) && (s.asks x).isSome) := by
  unfold wake
  simp only
  by_cases e : x = task
  · simp [e]
  · simp [e]
theorem send_once {s : St} (ok : Ok s) {k : Nat} {c : Ch} (hc : s.chs[k]? = some c) (n : Int) : Once s (Pp.send s k c n).st (Pp.send s k c n).wakes := by
  unfold Pp.send
  split
  · exact Or.inl ⟨rfl, fun _ => rfl⟩
  · split
    · next w r hr =>
      obtain ⟨l, x, h1, _⟩ := ok.recvs k c hc w (by rw [hr]; exact List.mem_cons_self)
      exact Or.inr ⟨_, rfl, by simp [h1], fun x => wake_asks s w.1 x⟩
    · split
      · exact Or.inl ⟨rfl, fun _ => rfl⟩
      · exact Or.inl ⟨rfl, fun _ => rfl⟩
theorem recv_once {s : St} (ok : Ok s) {k : Nat} {c : Ch} (hc : s.chs[k]? = some c) : Once s (Pp.recv s k c).st (Pp.recv s k c).wakes := by
  unfold Pp.recv
  split
  · exact Or.inl ⟨rfl, fun _ => rfl⟩
  · next w r hn hs =>
    obtain ⟨l, x, h1, _⟩ := ok.sends k c hc w (by rw [hs]; exact List.mem_cons_self)
    exact Or.inr ⟨_, rfl, by simp [h1], fun x => wake_asks s w.1 x⟩
  · exact Or.inl ⟨rfl, fun _ => rfl⟩
  · next x r w r2 hn hs =>
    obtain ⟨l, y, h1, _⟩ := ok.sends k c hc w (by rw [hs]; exact List.mem_cons_self)
    exact Or.inr ⟨_, rfl, by simp [h1], fun x => wake_asks (setNums s k r) w.1 x⟩
theorem doT_once {s : St} (ok : Ok s) (t : Tk) : Once s (Pp.doT s t).st (Pp.doT s t).wakes := by
  unfold Pp.doT
  split
  · exact Or.inl ⟨rfl, fun _ => rfl⟩
  · next c hc =>
    split
    · exact recv_once ok hc
    · exact send_once ok hc _
theorem talk_once {s : St} (ok : Ok s) (task : Int) (l : List Tk) (draw : Int) : (Pp.talk s task l draw).err = 0 →
    ((Pp.talk s task l draw).waits = true ∧ (Pp.talk s task l draw).wakes = [] ∧ ∀ x, ((Pp.talk s task l draw).st.asks x).isSome = (decide (x = task) || (s.asks x).isSome)) ∨
    ((Pp.talk s task l draw).waits = false ∧ Once s (Pp.talk s task l draw).st (Pp.talk s task l draw).wakes) := by
  unfold Pp.talk
  split
  · intro h; simp at h
  · split
    · intro h; simp at h
    · split
      · next h3 => intro h; exact absurd h h3
      · split
        · simp only
          split
          · next h4 => intro h; exact absurd h h4
          · intro _
            exact Or.inr ⟨rfl, doT_once ok _⟩
        · split
          · intro _
            exact Or.inr ⟨rfl, Or.inl ⟨rfl, fun _ => rfl⟩⟩
          · intro _
            refine Or.inl ⟨rfl, rfl, fun x => ?_⟩
            unfold Pp.wait
            simp only
            by_cases e : x = task
            · simp [e]
            · simp [e]
end Pp
end Go.Proofs.YtnjdmijcoadidaaGreatDoor

namespace Go.Proofs.YtnjdmijcoadidaaGreatDoor
namespace Rm
open Pp

/-- What a task asks for. -/
structure Ask where
  what : Int
  n : Int
  args : List Int
  cases : List Tk
structure Ev where
  task : Int
  what : Int
  obj : Int
/-- What does what is inside of tasks. -/
structure Doer (α : Type) where
  begins : α → Int → List Int → α
  next : α → Nat → α × Ask
  give : α → Nat → Int → Int → α
/-- A room: what each task is; those that have not ended, rising; when each one wakes that is asleep (the time, and whose it is). -/
structure S (α : Type) where
  fin : Int
  tasks : List Int
  live : List Nat
  now : Int
  clock : List (Int × Int)
  pipes : St
  globals : List Int
  out : List Int
  events : List Ev
  d : α

section
variable {α : Type} (D : Doer α)
def ready (s : S α) : List Nat := s.live.filter fun i => decide (s.tasks.getD i 0 = 0)
def choices (s : S α) : Nat := if s.fin = 0 then (ready s).length + (if 0 < s.clock.length then 1 else 0) else 0
def tell (s : S α) (t what obj : Int) : S α := { s with events := s.events ++ [⟨t, what, obj⟩] }
def give (s : S α) (t : Nat) (c n : Int) : S α := { s with d := D.give s.d t c n }
def be (s : S α) (t : Nat) (x : Int) : S α := { s with tasks := s.tasks.set t x }
def resume (s : S α) (t : Nat) (c n : Int) : S α := give D (be s t 0) t c n
def begins (s : S α) (fn : Int) (args : List Int) : S α := { s with live := s.live ++ [s.tasks.length], tasks := s.tasks ++ [0], d := D.begins s.d fn args }
def resumeEach (s : S α) : List Wk → S α
  | [] => s
  | w :: l => resumeEach (resume D s w.task.toNat (w.case : Int) w.n) l
def tellEach (s : S α) (what c : Int) : List Wk → S α
  | [] => s
  | w :: l => tellEach (tell s w.task what c) what c l
/-- The time at which one that is asleep wakes first. -/
def least (s : S α) : Int := ((s.clock.map (·.1)).min?).getD s.now
/-- Those that wake first, rising. -/
def first (s : S α) : List Int := (((s.clock.filter fun e => decide (e.1 = least s)).map (·.2)).mergeSort (fun a b => decide (a ≤ b)))
def rise (s : S α) : List Int → S α
  | [] => s
  | i :: l => rise (resume D s i.toNat 0 0) l
def wake (s : S α) : S α := rise D { s with now := least s, clock := s.clock.filter fun e => decide (e.1 ≠ least s) } (first s)
def ends (s : S α) (e : Int) : S α := { s with fin := e }
def had (s : S α) (c : Int) : Nat := ((chan s.pipes.chs c).map fun x => x.nums.length).getD 0
/-- The events of a talk that was done. -/
def tellTalk (s : S α) (t : Nat) (x : Tk) (k : Nat) (wk : List Wk) : S α :=
  if x.what = 40 then s
  else if x.what = 3 then tellEach (tell s t 2 x.chan) 3 x.chan wk
  else if 0 < k then tellEach (tell s t 3 x.chan) 2 x.chan wk
  else if 0 < wk.length then tell (tellEach s 2 x.chan wk) t 3 x.chan
  else tell s t 7 x.chan
def lent (s : S α) (c : Int) : Int × Int := if may s.pipes.chs.length c = false then (0, 10) else ((had s c : Nat), 0)
def talkA (s : S α) (t : Nat) (l : List Tk) (draw : Int) : S α :=
  let g := Pp.talk s.pipes t l draw
  if g.err ≠ 0 then ends { s with pipes := g.st } (if g.err = 13 then 5 else 10)
  else if g.waits then be { s with pipes := g.st } t 1
  else
    let x := l.getD g.case.toNat ⟨0, 0, 0⟩
    resumeEach D (give D (tellTalk { s with pipes := g.st } t x (had s x.chan) g.wakes) t g.case g.n) g.wakes
def shutA (s : S α) (t : Nat) (c : Int) : S α :=
  let g := Pp.close s.pipes c
  if g.err = 1 then ends { s with pipes := g.st } 6
  else if g.err ≠ 0 then ends { s with pipes := g.st } (if g.err = 13 then 5 else 10)
  else resumeEach D (give D (tellEach (tell { s with pipes := g.st } t 6 c) 7 c g.wakes) t 0 0) g.wakes
def forkA (s : S α) (t : Nat) (fn : Int) (args : List Int) : S α :=
  if 16 ≤ s.live.length then ends s 9
  else give D (begins D (tell s t 1 s.tasks.length) fn args) t 0 0
def sleepA (s : S α) (t : Nat) (n : Int) : S α :=
  if n ≤ 0 then give D s t 0 0
  else be { s with clock := s.clock ++ [(s.now + min n 1000, (t : Int))] } t 2
def has (s : S α) (n : Int) : Bool := decide (0 ≤ n) && decide (n < (s.globals.length : Int))
/-- What comes of an ask of which nothing comes but a number: the room, the number, and how all ends. -/
def numberA (s : S α) (t : Nat) (a : Ask) : S α × Int × Int :=
  if a.what = 7 then (s, lent s a.n)
  else if a.what = 12 then
    if a.n < 0 ∨ 8 < a.n then (s, 0, 7) else if 32 ≤ s.pipes.chs.length then (s, 0, 9)
    else ({ s with pipes := ⟨s.pipes.chs ++ [newCh a.n.toNat], s.pipes.asks⟩ }, (s.pipes.chs.length : Int) + 1, 0)
  else if a.what = 8 then
    if 100 ≤ s.out.length then (s, 0, 9) else ({ s with out := s.out ++ [a.n] }, 0, 0)
  else if a.what = 10 then
    if has s a.n then (tell s t 4 a.n, s.globals.getD a.n.toNat 0, 0) else (s, 0, 10)
  else if a.what = 11 then
    if has s a.n && decide (a.args.length = 1) then (tell { s with globals := s.globals.set a.n.toNat (a.args.getD 0 0) } t 5 a.n, 0, 0) else (s, 0, 10)
  else (s, 0, 10)
def endA (s : S α) (t : Nat) : S α := let r := { be s t 3 with live := s.live.filter fun i => decide (i ≠ t) }
  if t = 0 then ends r 1 else r
def doA (s : S α) (t : Nat) (a : Ask) (draw : Int) : S α :=
  if a.what = 1 then endA s t
  else if a.what = 2 then s
  else if a.what = 3 then ends s (if a.n < 3 ∨ 9 < a.n then 10 else a.n)
  else if a.what = 4 then forkA D s t a.n a.args
  else if a.what = 5 then talkA D s t a.cases draw
  else if a.what = 6 then shutA D s t a.n
  else if a.what = 9 then sleepA D s t a.n
  else
    let r := numberA s t a
    if r.2.2 ≠ 0 then ends r.1 r.2.2 else give D r.1 t 0 r.2.1
/-- One of those that are ready takes its turn. -/
def stepA (s : S α) (t : Nat) (draw : Int) : S α :=
  let r := D.next s.d t
  let s1 := doA D { s with d := r.1 } t r.2 draw
  if s1.fin = 0 ∧ choices s1 = 0 then ends s1 2 else s1
def turn (s : S α) (who draw : Int) : S α :=
  if choices s = 0 then s
  else
    let k := drawn who (choices s)
    if k = (ready s).length then wake D s else stepA D s ((ready s).getD k 0) draw
/-- Turns, up to the first that none can take; how many were. -/
def play : S α → List (Int × Int) → S α × Nat
  | s, [] => (s, 0)
  | s, p :: l => if choices s = 0 then (s, 0) else ((play (turn D s p.1 p.2) l).1, (play (turn D s p.1 p.2) l).2 + 1)
def start (globals : Nat) (d0 : α) : S α := { fin := 0, tasks := [0], live := [0], now := 0, clock := [], pipes := Pp.zero, globals := List.replicate globals 0, out := [], events := [], d := D.begins d0 0 [] }
end
end Rm
end Go.Proofs.YtnjdmijcoadidaaGreatDoor

namespace Go.Proofs.YtnjdmijcoadidaaGreatDoor
namespace Rm
open Pp

section
variable {α : Type} {D : Doer α} {s s' : S α} {p : List Int}
/-- What a task is; one that there isn't has ended. -/
def st (s : S α) (x : Int) : Int := if 0 ≤ x then s.tasks.getD x.toNat 3 else 3
/-- What holds of a room; those of p are to go on, and wait nowhere any more. -/
structure Inv (p : List Int) (s : S α) : Prop where
  ok : Ok s.pipes
  live : s.live = (List.range s.tasks.length).filter fun i => decide (s.tasks.getD i 3 ≠ 3)
  kinds : ∀ x ∈ s.tasks, x = 0 ∨ x = 1 ∨ x = 2 ∨ x = 3
  pend : ∀ x ∈ p, st s x = 1 ∨ st s x = 2
  pnd : p.Nodup
  asks : ∀ x, (s.pipes.asks x).isSome = true ↔ st s x = 1 ∧ x ∉ p
  clk : ∀ x, x ∈ s.clock.map (·.2) ↔ st s x = 2 ∧ x ∉ p
  cnd : (s.clock.map (·.2)).Nodup
  ctm : ∀ e ∈ s.clock, s.now < e.1 ∧ e.1 ≤ s.now + 1000
  now : 0 ≤ s.now
  few : s.live.length ≤ 16
  out : s.out.length ≤ 100
  glob : s.globals.length ≤ 8
theorem st_nat (s : S α) (i : Nat) : st s (i : Int) = s.tasks.getD i 3 := by
  unfold st; rw [if_pos (by omega)]; rfl
theorem st_lt {x : Int} (h : st s x ≠ 3) : 0 ≤ x ∧ x.toNat < s.tasks.length := by
  unfold st at h
  split at h
  · next h0 =>
    refine ⟨h0, ?_⟩
    rw [List.getD_eq_getElem?_getD] at h
    rcases Nat.lt_or_ge x.toNat s.tasks.length with e | e
    · exact e
    · rw [List.getElem?_eq_none e] at h; exact absurd rfl h
  · exact absurd rfl h
theorem getD_set (l : List Int) (t i : Nat) (x : Int) (ht : t < l.length) : (l.set t x).getD i 3 = if i = t then x else l.getD i 3 := by
  rw [List.getD_eq_getElem?_getD, List.getElem?_set]
  by_cases e : t = i
  · subst e; simp [ht]
  · rw [if_neg e, if_neg (fun h => e h.symm), List.getD_eq_getElem?_getD]
theorem st_be {t : Nat} (ht : t < s.tasks.length) (y : Int) (x : Int) : st (be s t y) x = if x = (t : Int) then y else st s x := by
  unfold st be
  simp only
  by_cases h0 : 0 ≤ x
  · rw [if_pos h0, if_pos h0, getD_set _ _ _ _ ht]
    by_cases e : x = (t : Int)
    · rw [if_pos e, if_pos (by omega)]
    · rw [if_neg e, if_neg (by omega)]
  · rw [if_neg h0, if_neg h0, if_neg (by omega)]
theorem live_set {l : List Int} {t : Nat} (ht : t < l.length) {y : Int} (h1 : y ≠ 3) (h2 : l.getD t 3 ≠ 3) :
    (List.range (l.set t y).length).filter (fun i => decide ((l.set t y).getD i 3 ≠ 3)) = (List.range l.length).filter fun i => decide (l.getD i 3 ≠ 3) := by
  rw [List.length_set]
  refine List.filter_congr fun i _ => ?_
  rw [getD_set _ _ _ _ ht]
  by_cases e : i = t
  · rw [if_pos e, e, decide_eq_true h1, decide_eq_true h2]
  · rw [if_neg e]
theorem Inv.lt (h : Inv p s) {t : Nat} (ht : t ∈ s.live) : t < s.tasks.length ∧ s.tasks.getD t 3 ≠ 3 := by
  rw [h.live] at ht
  obtain ⟨h1, h2⟩ := List.mem_filter.1 ht
  exact ⟨List.mem_range.1 h1, of_decide_eq_true h2⟩
theorem getD_in {l : List Int} {i : Nat} (h : i < l.length) (a b : Int) : l.getD i a = l.getD i b := by
  rw [List.getD_eq_getElem?_getD, List.getD_eq_getElem?_getD, List.getElem?_eq_getElem h]; rfl
theorem Inv.ready (h : Inv p s) {t : Nat} (ht : t ∈ Rm.ready s) : t < s.tasks.length ∧ st s (t : Int) = 0 := by
  obtain ⟨h1, h2⟩ := List.mem_filter.1 ht
  have h3 := h.lt h1
  refine ⟨h3.1, ?_⟩
  rw [st_nat, getD_in h3.1 3 0]
  exact of_decide_eq_true h2
theorem mem_ready (h : Inv p s) {t : Nat} : t ∈ Rm.ready s ↔ st s (t : Int) = 0 := by
  refine ⟨fun ht => (h.ready ht).2, fun ht => ?_⟩
  have h1 := (st_lt (s := s) (x := (t : Int)) (by rw [ht]; decide)).2
  have h2 : t < s.tasks.length := by simpa using h1
  rw [st_nat] at ht
  refine List.mem_filter.2 ⟨?_, ?_⟩
  · rw [h.live]
    exact List.mem_filter.2 ⟨List.mem_range.2 h2, decide_eq_true (by rw [ht]; decide)⟩
  · exact decide_eq_true (by rw [getD_in h2 0 3]; exact ht)
theorem nodup_le : ∀ (m : Nat) (l : List Int), l.Nodup → (∀ x ∈ l, 0 ≤ x ∧ x < (m : Int)) → l.length ≤ m := by
  intro m
  induction m with
  | zero => intro l _ h; cases l with
    | nil => exact Nat.le_refl _
    | cons a l => have := h a List.mem_cons_self; omega
  | succ m ih =>
    intro l hn h
    have h1 := ih (l.filter fun x => decide (x ≠ (m : Int))) (hn.filter _) fun x hx => by
      obtain ⟨h2, h3⟩ := List.mem_filter.1 hx
      have h4 := h x h2
      have h5 := of_decide_eq_true h3
      omega
    have h2 : ∀ l : List Int, l.Nodup → l.length ≤ (l.filter fun x => decide (x ≠ (m : Int))).length + 1 := by
      intro l
      induction l with
      | nil => intro _; simp
      | cons a l ih =>
        intro hn
        rw [List.nodup_cons] at hn
        by_cases e : a = (m : Int)
        · have h3 : (l.filter fun x => decide (x ≠ (m : Int))) = l := List.filter_eq_self.2 fun x hx => decide_eq_true fun h => hn.1 (by rw [e, ← h]; exact hx)
          rw [List.filter_cons, if_neg (by simp [e]), h3]; exact Nat.le_refl _
        · rw [List.filter_cons, if_pos (by simp [e])]
          have := ih hn.2
          simp only [List.length_cons]; omega
    have := h2 l hn
    omega
theorem Inv.give (h : Inv p s) (t : Nat) (c n : Int) : Inv p (give D s t c n) := ⟨h.ok, h.live, h.kinds, h.pend, h.pnd, h.asks, h.clk, h.cnd, h.ctm, h.now, h.few, h.out, h.glob⟩
theorem Inv.tell (h : Inv p s) (t what obj : Int) : Inv p (tell s t what obj) := ⟨h.ok, h.live, h.kinds, h.pend, h.pnd, h.asks, h.clk, h.cnd, h.ctm, h.now, h.few, h.out, h.glob⟩
theorem Inv.d (h : Inv p s) (d : α) : Inv p { s with d := d } := ⟨h.ok, h.live, h.kinds, h.pend, h.pnd, h.asks, h.clk, h.cnd, h.ctm, h.now, h.few, h.out, h.glob⟩
theorem Inv.ends (h : Inv p s) (e : Int) : Inv p (ends s e) := ⟨h.ok, h.live, h.kinds, h.pend, h.pnd, h.asks, h.clk, h.cnd, h.ctm, h.now, h.few, h.out, h.glob⟩
theorem Inv.tellEach {what c : Int} : ∀ (l : List Wk) {s : S α}, Inv p s → Inv p (tellEach s what c l)
  | [], _, h => h
  | _ :: l, _, h => Inv.tellEach l (h.tell _ _ _)
theorem Inv.tellTalk (h : Inv p s) (t : Nat) (x : Tk) (k : Nat) (wk : List Wk) : Inv p (tellTalk s t x k wk) := by
  unfold Rm.tellTalk
  split
  · exact h
  split
  · exact Inv.tellEach _ (h.tell _ _ _)
  split
  · exact Inv.tellEach _ (h.tell _ _ _)
  split
  · exact (Inv.tellEach _ h).tell _ _ _
  · exact h.tell _ _ _
/-- One that was to go on goes on. -/
theorem Inv.resume {x : Int} (h : Inv (x :: p) s) (c n : Int) : Inv p (resume D s x.toNat c n) := by
  have hx := h.pend x List.mem_cons_self
  have hn := List.nodup_cons.1 h.pnd
  obtain ⟨h0, h1⟩ := st_lt (s := s) (x := x) (by omega)
  have hxe : (x.toNat : Int) = x := Int.toNat_of_nonneg h0
  have hst : ∀ y, st (be s x.toNat 0) y = if y = x then 0 else st s y := fun y => by rw [st_be h1, hxe]
  have h3 : s.tasks.getD x.toNat 3 ≠ 3 := by
    have := st_nat s x.toNat
    rw [hxe] at this
    omega
  refine Inv.give (s := be s x.toNat 0) ⟨h.ok, ?_, ?_, ?_, hn.2, ?_, ?_, h.cnd, h.ctm, h.now, h.few, h.out, h.glob⟩ _ _ _
  · show s.live = _
    rw [h.live]
    exact (live_set h1 (by decide) h3).symm
  · intro y hy
    rcases List.mem_or_eq_of_mem_set hy with e | e
    · exact h.kinds y e
    · exact Or.inl e
  · intro y hy
    rw [hst, if_neg (fun e => hn.1 (by rw [← e]; exact hy))]
    exact h.pend y (List.mem_cons_of_mem _ hy)
  · intro y
    show (s.pipes.asks y).isSome = true ↔ _
    rw [h.asks y, hst]
    by_cases e : y = x
    · rw [if_pos e]
      constructor
      · intro ⟨_, h5⟩; exact absurd (by rw [e]; exact List.mem_cons_self) h5
      · intro ⟨h5, _⟩; cases h5
    · rw [if_neg e, List.mem_cons, not_or]
      exact ⟨fun ⟨a, _, b⟩ => ⟨a, b⟩, fun ⟨a, b⟩ => ⟨a, e, b⟩⟩
  · intro y
    show y ∈ s.clock.map (·.2) ↔ _
    rw [h.clk y, hst]
    by_cases e : y = x
    · rw [if_pos e]
      constructor
      · intro ⟨_, h5⟩; exact absurd (by rw [e]; exact List.mem_cons_self) h5
      · intro ⟨h5, _⟩; cases h5
    · rw [if_neg e, List.mem_cons, not_or]
      exact ⟨fun ⟨a, _, b⟩ => ⟨a, b⟩, fun ⟨a, b⟩ => ⟨a, e, b⟩⟩
theorem Inv.resumeEach : ∀ (l : List Wk) {s : S α}, Inv (l.map fun x : Wk => x.task) s → Inv [] (resumeEach D s l)
  | [], _, h => h
  | w :: l, s, h => by
    have h' : Inv (w.task :: l.map fun x : Wk => x.task) s := h
    exact Inv.resumeEach l (h'.resume _ _)
theorem Inv.rise : ∀ (l : List Int) {s : S α}, Inv l s → Inv [] (rise D s l)
  | [], _, h => h
  | _ :: l, _, h => Inv.rise l (h.resume _ _)
theorem least_le (s : S α) : ∀ e ∈ s.clock, least s ≤ e.1 := by
  intro e he
  unfold least
  cases hm : (s.clock.map (·.1)).min? with
  | none => rw [List.min?_eq_none_iff, List.map_eq_nil_iff] at hm; rw [hm] at he; cases he
  | some m => exact (List.min?_eq_some_iff.1 hm).2 _ (List.mem_map.2 ⟨e, he, rfl⟩)
theorem least_in (h : s.clock ≠ []) : ∃ e ∈ s.clock, e.1 = least s := by
  unfold least
  cases hm : (s.clock.map (·.1)).min? with
  | none => rw [List.min?_eq_none_iff, List.map_eq_nil_iff] at hm; exact absurd hm h
  | some m =>
    obtain ⟨e, he, h2⟩ := List.mem_map.1 (List.min?_eq_some_iff.1 hm).1
    exact ⟨e, he, h2⟩
theorem mem_first {x : Int} : x ∈ first s ↔ ∃ e ∈ s.clock, e.1 = least s ∧ e.2 = x := by
  unfold first
  rw [(List.mergeSort_perm _ _).mem_iff, List.mem_map]
  constructor
  · rintro ⟨e, he, rfl⟩
    obtain ⟨h1, h2⟩ := List.mem_filter.1 he
    exact ⟨e, h1, of_decide_eq_true h2, rfl⟩
  · rintro ⟨e, h1, h2, rfl⟩
    exact ⟨e, List.mem_filter.2 ⟨h1, decide_eq_true h2⟩, rfl⟩
/-- One id, one time. -/
theorem nodup_snd {l : List (Int × Int)} (h : (l.map (·.2)).Nodup) {e e' : Int × Int} (he : e ∈ l) (he' : e' ∈ l) (h2 : e.2 = e'.2) : e = e' := by
  induction l with
  | nil => cases he
  | cons a l ih =>
    rw [List.map_cons, List.nodup_cons] at h
    rcases List.mem_cons.1 he with h3 | h3
    · rcases List.mem_cons.1 he' with h4 | h4
      · rw [h3, h4]
      · exact absurd (List.mem_map.2 ⟨e', h4, by rw [← h2, h3]⟩) h.1
    · rcases List.mem_cons.1 he' with h4 | h4
      · exact absurd (List.mem_map.2 ⟨e, h3, by rw [h2, h4]⟩) h.1
      · exact ih h.2 h3 h4
theorem nodup_filter_map {l : List (Int × Int)} (h : (l.map (·.2)).Nodup) (f : Int × Int → Bool) : ((l.filter f).map (·.2)).Nodup :=
  h.sublist (List.filter_sublist.map _)
theorem Inv.wake (h : Inv [] s) : Inv [] (wake D s) := by
  unfold Rm.wake
  refine Inv.rise _ ?_
  have hle := least_le s
  have hnow : s.clock ≠ [] → s.now < least s ∧ least s ≤ s.now + 1000 := fun hc => by
    obtain ⟨e, he, h2⟩ := least_in hc
    have := h.ctm e he
    omega
  have hst : ∀ x, st { s with now := least s, clock := s.clock.filter fun e => decide (e.1 ≠ least s) } x = st s x := fun _ => rfl
  have hin : ∀ x, x ∈ (s.clock.filter fun e => decide (e.1 ≠ least s)).map (·.2) ↔ x ∈ s.clock.map (·.2) ∧ x ∉ first s := fun x => by
    rw [mem_first]
    constructor
    · intro hx
      obtain ⟨e, he, rfl⟩ := List.mem_map.1 hx
      obtain ⟨h1, h2⟩ := List.mem_filter.1 he
      refine ⟨List.mem_map.2 ⟨e, h1, rfl⟩, fun ⟨e', he', h3, h4⟩ => ?_⟩
      rw [nodup_snd h.cnd he' h1 h4] at h3
      exact (of_decide_eq_true h2) h3
    · rintro ⟨hx, h2⟩
      obtain ⟨e, he, rfl⟩ := List.mem_map.1 hx
      exact List.mem_map.2 ⟨e, List.mem_filter.2 ⟨he, decide_eq_true fun h3 => h2 ⟨e, he, h3, rfl⟩⟩, rfl⟩
  have hf : ∀ x ∈ first s, st s x = 2 := fun x hx => by
    obtain ⟨e, he, _, rfl⟩ := mem_first.1 hx
    exact ((h.clk e.2).1 (List.mem_map.2 ⟨e, he, rfl⟩)).1
  refine ⟨h.ok, h.live, h.kinds, fun x hx => Or.inr (hf x hx), ?_, fun x => ?_, fun x => ?_, nodup_filter_map h.cnd _, fun e he => ?_, ?_, h.few, h.out, h.glob⟩
  · unfold first
    exact (List.mergeSort_perm _ _).nodup_iff.2 (nodup_filter_map h.cnd _)
  · show (s.pipes.asks x).isSome = true ↔ st s x = 1 ∧ _
    rw [h.asks x]
    refine and_congr_right fun h1 => ⟨fun _ h2 => ?_, fun _ => List.not_mem_nil⟩
    have := hf x h2
    omega
  · show x ∈ (s.clock.filter _).map (·.2) ↔ st s x = 2 ∧ _
    rw [hin, h.clk x]
    exact ⟨fun ⟨⟨a, _⟩, b⟩ => ⟨a, b⟩, fun ⟨a, b⟩ => ⟨⟨a, List.not_mem_nil⟩, b⟩⟩
  · obtain ⟨h1, h2⟩ := List.mem_filter.1 he
    have h3 := of_decide_eq_true h2
    have h4 := hle e h1
    have h5 := h.ctm e h1
    have h6 := hnow (List.ne_nil_of_mem h1)
    show least s < e.1 ∧ e.1 ≤ least s + 1000
    omega
  · show 0 ≤ least s
    by_cases hc : s.clock = []
    · unfold least; rw [hc]; exact h.now
    · have := hnow hc
      have := h.now
      omega
end
end Rm
end Go.Proofs.YtnjdmijcoadidaaGreatDoor

namespace Go.Proofs.YtnjdmijcoadidaaGreatDoor
namespace Pp
theorem doT_err {s : St} (t : Tk) (h : (doT s t).err ≠ 0) : (doT s t).st = s := by
  revert h
  unfold doT
  split
  · intro h; exact absurd rfl h
  · split
    · unfold recv
      split <;> intro h <;> exact absurd rfl h
    · unfold send
      split
      · intro _; rfl
      · split
        · intro h; exact absurd rfl h
        · split
          · intro _; rfl
          · intro h; exact absurd rfl h
theorem talk_err {s : St} (task : Int) (l : List Tk) (draw : Int) (h : (talk s task l draw).err ≠ 0) : (talk s task l draw).st = s ∧ (talk s task l draw).wakes = [] := by
  revert h
  unfold talk
  split
  · intro _; exact ⟨rfl, rfl⟩
  · split
    · intro _; exact ⟨rfl, rfl⟩
    · split
      · intro _; exact ⟨rfl, rfl⟩
      · split
        · simp only
          split
          · next h4 => intro _; exact ⟨doT_err _ h4, rfl⟩
          · intro h; exact absurd rfl h
        · split
          · intro h; exact absurd rfl h
          · intro h; exact absurd rfl h
theorem wakeAll_once : ∀ (r : List (Int × Nat)) (s : St), ((wakeAll s r).2.map (·.task)).Nodup ∧ (∀ x ∈ (wakeAll s r).2.map (·.task), (s.asks x).isSome = true) ∧
    ∀ x, ((wakeAll s r).1.asks x).isSome = true ↔ (s.asks x).isSome = true ∧ x ∉ (wakeAll s r).2.map (·.task)
  | [], s => ⟨List.nodup_nil, fun x hx => absurd hx List.not_mem_nil, fun x => ⟨fun h => ⟨h, List.not_mem_nil⟩, fun h => h.1⟩⟩
  | w :: r, s => by
    unfold wakeAll
    by_cases hw : (s.asks w.1).isSome = true
    · rw [if_pos hw]
      obtain ⟨h1, h2, h3⟩ := wakeAll_once r (wake s w.1)
      have hk : ∀ x, ((wake s w.1).asks x).isSome = true ↔ x ≠ w.1 ∧ (s.asks x).isSome = true := fun x => by rw [wake_asks]; simp
      refine ⟨?_, fun x hx => ?_, fun x => ?_⟩
      · rw [List.map_cons, List.nodup_cons]
        exact ⟨fun hx => ((hk _).1 (h2 _ hx)).1 rfl, h1⟩
      · rw [List.map_cons] at hx
        rcases List.mem_cons.1 hx with e | e
        · rw [e]; exact hw
        · exact ((hk _).1 (h2 _ e)).2
      · show ((wakeAll (wake s w.1) r).1.asks x).isSome = true ↔ _
        rw [h3 x, hk x, List.map_cons, List.mem_cons, not_or]
        exact ⟨fun ⟨⟨a, b⟩, c⟩ => ⟨b, a, c⟩, fun ⟨b, a, c⟩ => ⟨⟨a, b⟩, c⟩⟩
    · rw [if_neg hw]
      exact wakeAll_once r s
theorem close_once (s : St) (c : Int) : ((close s c).wakes.map (·.task)).Nodup ∧ (∀ x ∈ (close s c).wakes.map (·.task), (s.asks x).isSome = true) ∧
    (∀ x, ((close s c).st.asks x).isSome = true ↔ (s.asks x).isSome = true ∧ x ∉ (close s c).wakes.map (·.task)) ∧ ((close s c).err ≠ 0 → (close s c).st = s ∧ (close s c).wakes = []) := by
  have hn : ((([] : List Wk).map (·.task)).Nodup ∧ (∀ x ∈ ([] : List Wk).map (·.task), (s.asks x).isSome = true) ∧ ∀ x, (s.asks x).isSome = true ↔ (s.asks x).isSome = true ∧ x ∉ ([] : List Wk).map (·.task)) :=
    ⟨List.nodup_nil, fun x hx => absurd hx List.not_mem_nil, fun x => ⟨fun h => ⟨h, List.not_mem_nil⟩, fun h => h.1⟩⟩
  unfold close
  split
  · exact ⟨hn.1, hn.2.1, hn.2.2, fun _ => ⟨rfl, rfl⟩⟩
  · split
    · exact ⟨hn.1, hn.2.1, hn.2.2, fun _ => ⟨rfl, rfl⟩⟩
    · split
      · exact ⟨hn.1, hn.2.1, hn.2.2, fun _ => ⟨rfl, rfl⟩⟩
      · split
        · exact ⟨hn.1, hn.2.1, hn.2.2, fun _ => ⟨rfl, rfl⟩⟩
        · next x _ _ _ =>
          obtain ⟨h1, h2, h3⟩ := wakeAll_once x.recvs ⟨s.chs.modify (c - 1).toNat fun c => { c with shut := true, recvs := [] }, s.asks⟩
          exact ⟨h1, h2, h3, fun h => absurd rfl h⟩
end Pp
namespace Rm
open Pp

section
variable {α : Type} {D : Doer α} {s s' s1 s2 : S α} {p : List Int}
/-- Channels turned; those of q go on. -/
theorem Inv.piped (h : Inv [] s) {st' : St} (ok : Ok st') {q : List Int} (hq : q.Nodup) (hw : ∀ x ∈ q, (s.pipes.asks x).isSome = true) (ha : ∀ x, (st'.asks x).isSome = true ↔ (s.pipes.asks x).isSome = true ∧ x ∉ q) : Inv q { s with pipes := st' } := by
  have h1 : ∀ x ∈ q, st s x = 1 := fun x hx => ((h.asks x).1 (hw x hx)).1
  refine ⟨ok, h.live, h.kinds, fun x hx => Or.inl (h1 x hx), hq, fun x => ?_, fun x => ?_, h.cnd, h.ctm, h.now, h.few, h.out, h.glob⟩
  · show (st'.asks x).isSome = true ↔ st s x = 1 ∧ x ∉ q
    rw [ha, h.asks]
    exact ⟨fun ⟨⟨a, _⟩, b⟩ => ⟨a, b⟩, fun ⟨a, b⟩ => ⟨⟨a, List.not_mem_nil⟩, b⟩⟩
  · show x ∈ s.clock.map (·.2) ↔ st s x = 2 ∧ x ∉ q
    rw [h.clk]
    exact ⟨fun ⟨a, _⟩ => ⟨a, fun hx => by have := h1 x hx; omega⟩, fun ⟨a, _⟩ => ⟨a, List.not_mem_nil⟩⟩
theorem Inv.pipedN (h : Inv [] s) {st' : St} (ok : Ok st') (ha : ∀ x, (st'.asks x).isSome = (s.pipes.asks x).isSome) : Inv [] { s with pipes := st' } :=
  h.piped ok List.nodup_nil (fun x hx => absurd hx List.not_mem_nil) fun x => by rw [ha]; exact ⟨fun h => ⟨h, List.not_mem_nil⟩, fun h => h.1⟩
/-- One that is ready turns to something else, but its end. -/
theorem Inv.turns (h : Inv [] s) {t : Nat} (ht : st s (t : Int) = 0) {y : Int} (hy : y = 1 ∨ y = 2) {st' : St} (ok : Ok st') (ha : ∀ x, (st'.asks x).isSome = true ↔ (s.pipes.asks x).isSome = true ∨ (y = 1 ∧ x = (t : Int))) {ck : List (Int × Int)}
    (hc : ∀ x, x ∈ ck.map (·.2) ↔ x ∈ s.clock.map (·.2) ∨ (y = 2 ∧ x = (t : Int))) (hn : (ck.map (·.2)).Nodup) (htm : ∀ e ∈ ck, s.now < e.1 ∧ e.1 ≤ s.now + 1000) : Inv [] (be { s with pipes := st', clock := ck } t y) := by
  have hlt : t < s.tasks.length := by have := (st_lt (s := s) (x := (t : Int)) (by omega)).2; simpa using this
  have hst : ∀ x, st (be s t y) x = if x = (t : Int) then y else st s x := st_be hlt y
  have h3 : s.tasks.getD t 3 ≠ 3 := by rw [← st_nat]; omega
  refine ⟨ok, ?_, fun x hx => ?_, fun x hx => absurd hx List.not_mem_nil, List.nodup_nil, fun x => ?_, fun x => ?_, hn, htm, h.now, h.few, h.out, h.glob⟩
  · show s.live = _
    rw [h.live]
    exact (live_set hlt (by omega) h3).symm
  · rcases List.mem_or_eq_of_mem_set hx with e | e
    · exact h.kinds x e
    · omega
  · show (st'.asks x).isSome = true ↔ st (be s t y) x = 1 ∧ _
    rw [ha, h.asks, hst]
    by_cases e : x = (t : Int)
    · rw [if_pos e, e, ht]
      constructor
      · rintro (⟨a, _⟩ | ⟨a, _⟩)
        · cases a
        · exact ⟨a, List.not_mem_nil⟩
      · intro ⟨a, _⟩; exact Or.inr ⟨a, rfl⟩
    · rw [if_neg e]
      constructor
      · rintro (a | ⟨_, a⟩)
        · exact a
        · exact absurd a e
      · exact Or.inl
  · show x ∈ ck.map (·.2) ↔ st (be s t y) x = 2 ∧ _
    rw [hc, h.clk, hst]
    by_cases e : x = (t : Int)
    · rw [if_pos e, e, ht]
      constructor
      · rintro (⟨a, _⟩ | ⟨a, _⟩)
        · cases a
        · exact ⟨a, List.not_mem_nil⟩
      · intro ⟨a, _⟩; exact Or.inr ⟨a, rfl⟩
    · rw [if_neg e]
      constructor
      · rintro (a | ⟨_, a⟩)
        · exact a
        · exact absurd a e
      · exact Or.inl
theorem Inv.endA (h : Inv [] s) {t : Nat} (ht : st s (t : Int) = 0) : Inv [] (endA s t) := by
  have hlt : t < s.tasks.length := by have := (st_lt (s := s) (x := (t : Int)) (by omega)).2; simpa using this
  have key : Inv [] { be s t 3 with live := s.live.filter fun i => decide (i ≠ t) } := by
    have hst : ∀ x, st (be s t 3) x = if x = (t : Int) then 3 else st s x := st_be hlt 3
    refine ⟨h.ok, ?_, fun x hx => ?_, fun x hx => absurd hx List.not_mem_nil, List.nodup_nil, fun x => ?_, fun x => ?_, h.cnd, h.ctm, h.now, Nat.le_trans (List.length_filter_le _ _) h.few, h.out, h.glob⟩
    · show s.live.filter _ = (List.range (s.tasks.set t 3).length).filter fun i => decide ((s.tasks.set t 3).getD i 3 ≠ 3)
      rw [h.live, List.filter_filter, List.length_set]
      refine List.filter_congr fun i _ => ?_
      rw [getD_set _ _ _ _ hlt]
      by_cases e : i = t
      · simp [e]
      · simp [e]
    · rcases List.mem_or_eq_of_mem_set hx with e | e
      · exact h.kinds x e
      · omega
    · show (s.pipes.asks x).isSome = true ↔ st (be s t 3) x = 1 ∧ _
      rw [h.asks, hst]
      by_cases e : x = (t : Int)
      · rw [if_pos e, e, ht]
        exact ⟨fun ⟨a, _⟩ => (by cases a), fun ⟨a, _⟩ => (by cases a)⟩
      · rw [if_neg e]
    · show x ∈ s.clock.map (·.2) ↔ st (be s t 3) x = 2 ∧ _
      rw [h.clk, hst]
      by_cases e : x = (t : Int)
      · rw [if_pos e, e, ht]
        exact ⟨fun ⟨a, _⟩ => (by cases a), fun ⟨a, _⟩ => (by cases a)⟩
      · rw [if_neg e]
  unfold Rm.endA
  simp only
  split
  · exact key.ends _
  · exact key
theorem Inv.begins (h : Inv [] s) (hf : s.live.length < 16) (fn : Int) (args : List Int) : Inv [] (Rm.begins D s fn args) := by
  have hst : ∀ x, st (Rm.begins D s fn args) x = if x = (s.tasks.length : Int) then 0 else st s x := fun x => by
    unfold st Rm.begins
    simp only
    by_cases h0 : 0 ≤ x
    · rw [if_pos h0, if_pos h0, List.getD_eq_getElem?_getD, List.getElem?_append, List.getD_eq_getElem?_getD]
      by_cases e : x = (s.tasks.length : Int)
      · subst e; simp
      · rw [if_neg e]
        by_cases e2 : x.toNat < s.tasks.length
        · rw [if_pos e2]
        · rw [if_neg e2, List.getElem?_eq_none (l := s.tasks) (by omega), List.getElem?_eq_none]
          simp; omega
    · rw [if_neg h0, if_neg h0, if_neg (by omega)]
  have h3 : st s (s.tasks.length : Int) = 3 := by
    rw [st_nat, List.getD_eq_getElem?_getD, List.getElem?_eq_none (Nat.le_refl _)]; rfl
  refine ⟨h.ok, ?_, fun x hx => ?_, fun x hx => absurd hx List.not_mem_nil, List.nodup_nil, fun x => ?_, fun x => ?_, h.cnd, h.ctm, h.now, ?_, h.out, h.glob⟩
  · show s.live ++ [s.tasks.length] = (List.range (s.tasks ++ [0]).length).filter fun i => decide ((s.tasks ++ [0]).getD i 3 ≠ 3)
    rw [List.length_append, List.length_singleton, List.range_succ, List.filter_append, h.live]
    congr 1
    · refine List.filter_congr fun i hi => ?_
      rw [List.getD_eq_getElem?_getD, List.getD_eq_getElem?_getD, List.getElem?_append_left (List.mem_range.1 hi)]
    · simp
  · rcases List.mem_append.1 hx with e | e
    · exact h.kinds x e
    · rw [List.mem_singleton] at e; exact Or.inl e
  · show (s.pipes.asks x).isSome = true ↔ _
    rw [h.asks, hst]
    by_cases e : x = (s.tasks.length : Int)
    · rw [if_pos e, e, h3]
      exact ⟨fun ⟨a, _⟩ => (by cases a), fun ⟨a, _⟩ => (by cases a)⟩
    · rw [if_neg e]
  · show x ∈ s.clock.map (·.2) ↔ _
    rw [h.clk, hst]
    by_cases e : x = (s.tasks.length : Int)
    · rw [if_pos e, e, h3]
      exact ⟨fun ⟨a, _⟩ => (by cases a), fun ⟨a, _⟩ => (by cases a)⟩
    · rw [if_neg e]
  · show (s.live ++ [s.tasks.length]).length ≤ 16
    rw [List.length_append, List.length_singleton]; exact hf
theorem Inv.forkA (h : Inv [] s) (t : Nat) (fn : Int) (args : List Int) : Inv [] (forkA D s t fn args) := by
  unfold Rm.forkA
  split
  · exact h.ends _
  · exact ((h.tell _ _ _).begins (by show s.live.length < 16; omega) _ _).give _ _ _
theorem Inv.sleepA (h : Inv [] s) {t : Nat} (ht : st s (t : Int) = 0) (n : Int) : Inv [] (sleepA D s t n) := by
  unfold Rm.sleepA
  split
  · exact h.give _ _ _
  · next hn =>
    have hno : (t : Int) ∉ s.clock.map (·.2) := fun hx => by have := ((h.clk _).1 hx).1; omega
    refine h.turns (y := 2) ht (Or.inr rfl) (st' := s.pipes) h.ok (fun x => ?_) (ck := s.clock ++ [(s.now + min n 1000, (t : Int))]) (fun x => ?_) ?_ fun e he => ?_
    · exact ⟨Or.inl, fun hx => hx.elim id fun hx => by cases hx.1⟩
    · rw [List.map_append, List.mem_append]
      simp
    · rw [List.map_append, List.nodup_append]
      refine ⟨h.cnd, by simp, fun a ha b hb e => ?_⟩
      simp at hb
      rw [e, hb] at ha
      exact hno ha
    · rcases List.mem_append.1 he with e1 | e1
      · exact h.ctm e e1
      · rw [List.mem_singleton] at e1
        rw [e1]
        simp only
        omega
theorem Inv.numberA (h : Inv [] s) (t : Nat) (a : Ask) : Inv [] (numberA s t a).1 := by
  unfold Rm.numberA
  split
  · exact h
  split
  · split
    · exact h
    split
    · exact h
    · next h1 h2 => exact h.pipedN (h.ok.make (by omega) (by omega)) fun _ => rfl
  split
  · split
    · exact h
    · next h1 => exact ⟨h.ok, h.live, h.kinds, h.pend, h.pnd, h.asks, h.clk, h.cnd, h.ctm, h.now, h.few, by show (s.out ++ [a.n]).length ≤ 100; rw [List.length_append, List.length_singleton]; omega, h.glob⟩
  split
  · split
    · exact h.tell _ _ _
    · exact h
  split
  · split
    · exact Inv.tell (s := { s with globals := s.globals.set a.n.toNat (a.args.getD 0 0) }) ⟨h.ok, h.live, h.kinds, h.pend, h.pnd, h.asks, h.clk, h.cnd, h.ctm, h.now, h.few, h.out, by show (s.globals.set _ _).length ≤ 8; rw [List.length_set]; exact h.glob⟩ _ _ _
    · exact h
  · exact h
theorem Inv.shutA (h : Inv [] s) (t : Nat) (c : Int) : Inv [] (shutA D s t c) := by
  obtain ⟨h1, h2, h3, h4⟩ := close_once s.pipes c
  unfold Rm.shutA
  simp only
  have key := h.piped (h.ok.close c) h1 h2 h3
  split
  · next e =>
    have := h4 (by rw [e]; decide)
    rw [this.1]
    exact h.ends _
  split
  · next e =>
    have := h4 e
    rw [this.1]
    exact h.ends _
  · exact Inv.resumeEach _ ((Inv.tellEach _ (key.tell _ _ _)).give _ _ _)
theorem Inv.talkA (h : Inv [] s) {t : Nat} (ht : st s (t : Int) = 0) (l : List Tk) (draw : Int) : Inv [] (talkA D s t l draw) := by
  unfold Rm.talkA
  simp only
  split
  · next e =>
    rw [(talk_err _ _ _ e).1]
    exact h.ends _
  next e =>
  rcases talk_once h.ok (t : Int) l draw (by omega) with ⟨h1, _, h3⟩ | ⟨h1, h3⟩
  · rw [if_pos h1]
    refine h.turns (y := 1) ht (Or.inl rfl) (h.ok.talk _ _ _) (fun x => ?_) (ck := s.clock) (fun x => ?_) h.cnd h.ctm
    · rw [h3 x]
      simp [or_comm]
    · exact ⟨Or.inl, fun hx => hx.elim id fun hx => by cases hx.1⟩
  · rw [if_neg (by rw [h1]; decide)]
    refine Inv.resumeEach _ (Inv.give (Inv.tellTalk ?_ _ _ _ _) _ _ _)
    rcases h3 with ⟨h4, h5⟩ | ⟨w, h4, h5, h6⟩
    · rw [h4]
      exact h.pipedN (h.ok.talk _ _ _) h5
    · rw [h4]
      exact h.piped (h.ok.talk _ _ _) (by simp) (fun x hx => by simp at hx; rw [hx]; exact h5) fun x => by rw [h6 x]; simp [and_comm]
theorem Inv.doA (h : Inv [] s) {t : Nat} (ht : st s (t : Int) = 0) (a : Ask) (draw : Int) : Inv [] (doA D s t a draw) := by
  unfold Rm.doA
  split
  · exact h.endA ht
  split
  · exact h
  split
  · exact h.ends _
  split
  · exact h.forkA _ _ _
  split
  · exact h.talkA ht _ _
  split
  · exact h.shutA _ _
  split
  · exact h.sleepA ht _
  · simp only
    split
    · exact (h.numberA _ _).ends _
    · exact (h.numberA _ _).give _ _ _
theorem Inv.stepA (h : Inv [] s) {t : Nat} (ht : st s (t : Int) = 0) (draw : Int) : Inv [] (stepA D s t draw) := by
  unfold Rm.stepA
  simp only
  have h1 := (h.d (D.next s.d t).1).doA (D := D) (t := t) ht (D.next s.d t).2 draw
  split
  · exact h1.ends _
  · exact h1
theorem drawn_lt (who : Int) {m : Nat} (h : 0 < m) : drawn who m < m := by
  unfold drawn
  have h1 := Int.emod_lt_of_pos who (show (0 : Int) < m by omega)
  have h2 := Int.emod_nonneg who (show (m : Int) ≠ 0 by omega)
  omega
theorem Inv.turn (h : Inv [] s) (who draw : Int) : Inv [] (turn D s who draw) := by
  unfold Rm.turn
  split
  · exact h
  next hc =>
  simp only
  split
  · exact h.wake
  next hk =>
  have h1 := drawn_lt who (m := choices s) (by omega)
  have h2 : choices s ≤ (Rm.ready s).length + 1 := by
    unfold choices
    split
    · split <;> omega
    · omega
  refine h.stepA (h.ready (t := (Rm.ready s).getD (drawn who (choices s)) 0) ?_).2 _
  rw [List.getD_eq_getElem?_getD, List.getElem?_eq_getElem (by omega)]
  exact List.getElem_mem _
theorem Inv.play : ∀ (l : List (Int × Int)) {s : S α}, Inv [] s → Inv [] (play D s l).1
  | [], _, h => h
  | q :: l, s, h => by
    unfold Rm.play
    split
    · exact h
    · exact Inv.play l (h.turn _ _)
theorem Inv.start {g : Nat} (hg : g ≤ 8) (d : α) : Inv [] (Rm.start D g d) := by
  have hst : ∀ x, st (Rm.start D g d) x = 0 ∨ st (Rm.start D g d) x = 3 := fun x => by
    unfold st Rm.start
    simp only
    split
    · rcases x.toNat with _ | k
      · exact Or.inl rfl
      · exact Or.inr rfl
    · exact Or.inr rfl
  refine ⟨Ok.zero, ?_, fun x hx => ?_, fun x hx => absurd hx List.not_mem_nil, List.nodup_nil, fun x => ?_, fun x => ?_, List.nodup_nil, fun e he => absurd he List.not_mem_nil, Int.le_refl _, Nat.le_of_ble_eq_true rfl, Nat.zero_le _, ?_⟩
  · show [0] = (List.range 1).filter fun i => decide (([0] : List Int).getD i 3 ≠ 3)
    rfl
  · simp [Rm.start] at hx; exact Or.inl hx
  · constructor
    · intro hx; cases hx
    · intro ⟨hx, _⟩
      rcases hst x with e | e <;> omega
  · constructor
    · intro hx; cases hx
    · intro ⟨hx, _⟩
      rcases hst x with e | e <;> omega
  · show (List.replicate g (0 : Int)).length ≤ 8
    rw [List.length_replicate]; exact hg
end
end Rm
end Go.Proofs.YtnjdmijcoadidaaGreatDoor

namespace Go.Proofs.YtnjdmijcoadidaaGreatDoor
namespace Rm
open Pp

/-- What does what is inside of tasks counts them, and is told of each thing once. -/
structure Bd {α : Type} (D : Doer α) (num big : α → Nat) : Prop where
  num_begins : ∀ d fn args, num (D.begins d fn args) = num d + 1
  num_next : ∀ d t, num (D.next d t).1 = num d
  num_give : ∀ d t c n, num (D.give d t c n) = num d
  big_begins : ∀ d fn args, big (D.begins d fn args) ≤ big d + 1
  big_next : ∀ d t, big (D.next d t).1 ≤ big d + 1
  big_give : ∀ d t c n, big (D.give d t c n) ≤ big d + 1
section
variable {α : Type} {D : Doer α} {num big : α → Nat} {s s' s1 s2 : S α} {p : List Int} {k k1 k2 : Nat} {E : Nat → Prop}
structure Step (num big : α → Nat) (E : Nat → Prop) (k : Nat) (s s' : S α) : Prop where
  num : num s'.d + s.tasks.length = num s.d + s'.tasks.length
  big : big s'.d ≤ big s.d + k
  tl : s.tasks.length ≤ s'.tasks.length
  tk : s'.tasks.length ≤ s.tasks.length + k
  ev : s'.events.length ≤ s.events.length + k
  e3 : ∀ i, i < s.tasks.length → s.tasks.getD i 3 = 3 → s'.tasks.getD i 3 = 3
  e4 : ∀ i, i < s.tasks.length → s'.tasks.getD i 3 = 3 → s.tasks.getD i 3 = 3 ∨ E i
  chs : s.pipes.chs.length ≤ s'.pipes.chs.length
  out : ∃ o, s'.out = s.out ++ o
  glob : s'.globals.length = s.globals.length
  now : s.now ≤ s'.now ∧ s'.now ≤ s.now + 1000 * k
theorem Step.refl (E : Nat → Prop) (s : S α) : Step num big E 0 s s := ⟨rfl, Nat.le_refl _, Nat.le_refl _, Nat.le_refl _, Nat.le_refl _, fun _ _ h => h, fun _ _ h => Or.inl h, Nat.le_refl _, ⟨[], by simp⟩, rfl, Int.le_refl _, by omega⟩
theorem Step.trans (h : Step num big E k1 s s1) (h' : Step num big E k2 s1 s2) : Step num big E (k1 + k2) s s2 := by
  obtain ⟨o, h1⟩ := h.out
  obtain ⟨o', h2⟩ := h'.out
  have a1 := h.num; have a2 := h'.num
  have b1 := h.big; have b2 := h'.big
  have c1 := h.tl; have c2 := h'.tl
  have d1 := h.tk; have d2 := h'.tk
  have e1 := h.ev; have e2 := h'.ev
  have n1 := h.now; have n2 := h'.now
  refine ⟨by omega, by omega, by omega, by omega, by omega, fun i hi e => h'.e3 i (by omega) (h.e3 i hi e), fun i hi e => ?_, Nat.le_trans h.chs h'.chs, ⟨o ++ o', by rw [h2, h1, List.append_assoc]⟩, by rw [h'.glob, h.glob], by omega⟩
  rcases h'.e4 i (by omega) e with h3 | h3
  · exact h.e4 i hi h3
  · exact Or.inr h3
theorem Step.up (h : Step num big E k s s1) (hk : k ≤ k1) : Step num big E k1 s s1 := by
  have := h.big; have := h.tk; have := h.ev; have := h.now
  exact ⟨h.num, by omega, h.tl, by omega, by omega, h.e3, h.e4, h.chs, h.out, h.glob, by omega⟩
theorem Step.give (B : Bd D num big) (s : S α) (t : Nat) (c n : Int) : Step num big E 1 s (give D s t c n) :=
  ⟨by show num (D.give s.d t c n) + s.tasks.length = num s.d + s.tasks.length; rw [B.num_give], B.big_give _ _ _ _, Nat.le_refl _, Nat.le_succ _, Nat.le_succ _, fun _ _ h => h, fun _ _ h => Or.inl h, Nat.le_refl _, ⟨[], by simp [Rm.give]⟩, rfl, Int.le_refl _, by show s.now ≤ _; omega⟩
theorem Step.tell (s : S α) (t what obj : Int) : Step num big E 1 s (tell s t what obj) :=
  ⟨rfl, Nat.le_succ _, Nat.le_refl _, Nat.le_succ _, by show (s.events ++ [_]).length ≤ _; simp, fun _ _ h => h, fun _ _ h => Or.inl h, Nat.le_refl _, ⟨[], by simp [Rm.tell]⟩, rfl, Int.le_refl _, by show s.now ≤ _; omega⟩
theorem Step.ends (s : S α) (e : Int) : Step num big E 0 s (ends s e) := ⟨rfl, Nat.le_refl _, Nat.le_refl _, Nat.le_refl _, Nat.le_refl _, fun _ _ h => h, fun _ _ h => Or.inl h, Nat.le_refl _, ⟨[], by simp [Rm.ends]⟩, rfl, Int.le_refl _, by show s.now ≤ _; omega⟩
theorem Step.piped (s : S α) (q : St) (h : s.pipes.chs.length ≤ q.chs.length) : Step num big E 0 s { s with pipes := q } := ⟨rfl, Nat.le_refl _, Nat.le_refl _, Nat.le_refl _, Nat.le_refl _, fun _ _ h => h, fun _ _ h => Or.inl h, h, ⟨[], by simp⟩, rfl, Int.le_refl _, by show s.now ≤ _; omega⟩
theorem Step.be (s : S α) (t : Nat) (y : Int) (h : s.tasks.getD t 3 = 3 → y = 3) (h2 : y = 3 → E t) : Step num big E 0 s (be s t y) := by
  refine ⟨?_, Nat.le_refl _, ?_, ?_, Nat.le_refl _, fun i hi e => ?_, fun i hi e => ?_, Nat.le_refl _, ⟨[], by simp [Rm.be]⟩, rfl, Int.le_refl _, by show s.now ≤ _; omega⟩
  · show num s.d + _ = num s.d + (s.tasks.set t y).length; rw [List.length_set]
  · show _ ≤ (s.tasks.set t y).length; rw [List.length_set]; exact Nat.le_refl _
  · show (s.tasks.set t y).length ≤ _; rw [List.length_set]; exact Nat.le_refl _
  · show (s.tasks.set t y).getD i 3 = 3
    by_cases ht : t < s.tasks.length
    · rw [getD_set _ _ _ _ ht]
      by_cases e2 : i = t
      · rw [if_pos e2]; exact h (by rw [← e2]; exact e)
      · rw [if_neg e2]; exact e
    · rw [List.set_eq_of_length_le (by omega)]; exact e
  · have e' : (s.tasks.set t y).getD i 3 = 3 := e
    by_cases ht : t < s.tasks.length
    · rw [getD_set _ _ _ _ ht] at e'
      by_cases e2 : i = t
      · rw [if_pos e2] at e'; rw [e2]; exact Or.inr (h2 e')
      · rw [if_neg e2] at e'; exact Or.inl e'
    · rw [List.set_eq_of_length_le (by omega)] at e'; exact Or.inl e'
theorem Step.tellEach {what c : Int} : ∀ (l : List Wk) (s : S α), Step num big E l.length s (tellEach s what c l)
  | [], s => Step.refl E s
  | w :: l, s => ((Step.tell s w.task what c).trans (Step.tellEach l _)).up (by simp only [List.length_cons]; omega)
theorem Step.tellTalk (s : S α) (t : Nat) (x : Tk) (j : Nat) (wk : List Wk) : Step num big E (1 + wk.length) s (tellTalk s t x j wk) := by
  unfold Rm.tellTalk
  split
  · exact (Step.refl E s).up (by omega)
  split
  · exact (Step.tell s t 2 x.chan).trans (Step.tellEach _ _)
  split
  · exact (Step.tell s t 3 x.chan).trans (Step.tellEach _ _)
  split
  · exact ((Step.tellEach wk s).trans (Step.tell _ t 3 x.chan)).up (by omega)
  · exact (Step.tell s t 7 x.chan).up (by omega)
theorem Step.resume (B : Bd D num big) (h : Inv p s) {x : Int} (hx : x ∈ p) (c n : Int) : Step num big E 1 s (resume D s x.toNat c n) := by
  have h1 := h.pend x hx
  have h0 := (st_lt (s := s) (x := x) (by omega)).1
  have h2 := st_nat s x.toNat
  rw [Int.toNat_of_nonneg h0] at h2
  exact ((Step.be s x.toNat 0 (fun e => by omega) (fun e => by cases e)).trans (Step.give B _ _ c n)).up (by omega)
theorem Step.resumeEach (B : Bd D num big) : ∀ (l : List Wk) (s : S α), Inv (l.map fun x : Wk => x.task) s → Step num big E l.length s (resumeEach D s l)
  | [], s, _ => Step.refl E s
  | w :: l, s, h => by
    have h' : Inv (w.task :: l.map fun x : Wk => x.task) s := h
    exact ((Step.resume (D := D) B h' (x := w.task) List.mem_cons_self (w.case : Int) w.n).trans (Step.resumeEach B l _ (h'.resume _ _))).up (by simp only [List.length_cons]; omega)
theorem Step.rise (B : Bd D num big) : ∀ (l : List Int) (s : S α), Inv l s → Step num big E l.length s (rise D s l)
  | [], s, _ => Step.refl E s
  | x :: l, s, h => ((Step.resume (D := D) B h (x := x) List.mem_cons_self 0 0).trans (Step.rise B l _ (h.resume _ _))).up (by simp only [List.length_cons]; omega)
/-- Those that are to go on are few. -/
theorem count_live : ∀ (l : List Int) (m : Nat), l.Nodup → (∀ x ∈ l, ∃ i : Nat, x = (i : Int) ∧ i ∈ (List.range m).filter fun i => decide (i < m)) → l.length ≤ m := by
  intro l m hn h
  exact nodup_le m l hn fun x hx => by
    obtain ⟨i, rfl, hi⟩ := h x hx
    have := List.mem_range.1 (List.mem_filter.1 hi).1
    omega
theorem nodup_sub : ∀ (l : List Int) (m : List Nat), l.Nodup → (∀ x ∈ l, ∃ i ∈ m, x = ((i : Nat) : Int)) → l.length ≤ m.length := by
  intro l m
  induction m generalizing l with
  | nil => intro _ h; cases l with
    | nil => exact Nat.le_refl _
    | cons a l => obtain ⟨i, hi, _⟩ := h a List.mem_cons_self; cases hi
  | cons j m ih =>
    intro hn h
    have h1 := ih (l.erase (j : Int)) (hn.erase _) fun x hx => by
      obtain ⟨h2, h3⟩ := (hn.mem_erase_iff).1 hx
      obtain ⟨i, hi, rfl⟩ := h x h3
      rcases List.mem_cons.1 hi with rfl | hi
      · exact absurd rfl h2
      · exact ⟨i, hi, rfl⟩
    have h2 := List.le_length_erase (l := l) (a := (j : Int))
    simp only [List.length_cons]
    omega
theorem Inv.pend_le (h : Inv p s) : p.length ≤ 16 := by
  refine Nat.le_trans (nodup_sub p s.live h.pnd fun x hx => ?_) h.few
  have h1 := h.pend x hx
  obtain ⟨h2, h3⟩ := st_lt (s := s) (x := x) (by omega)
  refine ⟨x.toNat, ?_, (Int.toNat_of_nonneg h2).symm⟩
  rw [h.live]
  refine List.mem_filter.2 ⟨List.mem_range.2 h3, decide_eq_true fun e => ?_⟩
  have h4 := st_nat s x.toNat
  rw [Int.toNat_of_nonneg h2] at h4
  omega
theorem Inv.clock_le (h : Inv p s) : s.clock.length ≤ 16 := by
  rw [← List.length_map (f := (·.2))]
  refine Nat.le_trans (nodup_sub _ s.live h.cnd fun x hx => ?_) h.few
  have h1 := ((h.clk x).1 hx).1
  obtain ⟨h2, h3⟩ := st_lt (s := s) (x := x) (by omega)
  refine ⟨x.toNat, ?_, (Int.toNat_of_nonneg h2).symm⟩
  rw [h.live]
  refine List.mem_filter.2 ⟨List.mem_range.2 h3, decide_eq_true fun e => ?_⟩
  have h4 := st_nat s x.toNat
  rw [Int.toNat_of_nonneg h2] at h4
  omega
/-- What the clock's turn begins with. -/
theorem Inv.due (h : Inv [] s) : Inv (first s) { s with now := least s, clock := s.clock.filter fun e => decide (e.1 ≠ least s) } ∧ s.now ≤ least s ∧ least s ≤ s.now + 1000 ∧ (s.clock ≠ [] → s.now < least s) := by
  have hle := least_le s
  have hnow : s.clock ≠ [] → s.now < least s ∧ least s ≤ s.now + 1000 := fun hc => by
    obtain ⟨e, he, h2⟩ := least_in hc
    have := h.ctm e he
    omega
  have hn2 : s.now ≤ least s ∧ least s ≤ s.now + 1000 := by
    by_cases hc : s.clock = []
    · have : least s = s.now := by unfold least; rw [hc]; rfl
      omega
    · have := hnow hc
      omega
  refine ⟨?_, hn2.1, hn2.2, fun hc => (hnow hc).1⟩
  have hin : ∀ x, x ∈ (s.clock.filter fun e => decide (e.1 ≠ least s)).map (·.2) ↔ x ∈ s.clock.map (·.2) ∧ x ∉ first s := fun x => by
    rw [mem_first]
    constructor
    · intro hx
      obtain ⟨e, he, rfl⟩ := List.mem_map.1 hx
      obtain ⟨h1, h2⟩ := List.mem_filter.1 he
      refine ⟨List.mem_map.2 ⟨e, h1, rfl⟩, fun ⟨e', he', h3, h4⟩ => ?_⟩
      rw [nodup_snd h.cnd he' h1 h4] at h3
      exact (of_decide_eq_true h2) h3
    · rintro ⟨hx, h2⟩
      obtain ⟨e, he, rfl⟩ := List.mem_map.1 hx
      exact List.mem_map.2 ⟨e, List.mem_filter.2 ⟨he, decide_eq_true fun h3 => h2 ⟨e, he, h3, rfl⟩⟩, rfl⟩
  have hf : ∀ x ∈ first s, st s x = 2 := fun x hx => by
    obtain ⟨e, he, _, rfl⟩ := mem_first.1 hx
    exact ((h.clk e.2).1 (List.mem_map.2 ⟨e, he, rfl⟩)).1
  refine ⟨h.ok, h.live, h.kinds, fun x hx => Or.inr (hf x hx), ?_, fun x => ?_, fun x => ?_, nodup_filter_map h.cnd _, fun e he => ?_, ?_, h.few, h.out, h.glob⟩
  · unfold first
    exact (List.mergeSort_perm _ _).nodup_iff.2 (nodup_filter_map h.cnd _)
  · show (s.pipes.asks x).isSome = true ↔ st s x = 1 ∧ _
    rw [h.asks x]
    refine and_congr_right fun h1 => ⟨fun _ h2 => ?_, fun _ => List.not_mem_nil⟩
    have := hf x h2
    omega
  · show x ∈ (s.clock.filter _).map (·.2) ↔ st s x = 2 ∧ _
    rw [hin, h.clk x]
    exact ⟨fun ⟨⟨a, _⟩, b⟩ => ⟨a, b⟩, fun ⟨a, b⟩ => ⟨⟨a, List.not_mem_nil⟩, b⟩⟩
  · obtain ⟨h1, h2⟩ := List.mem_filter.1 he
    have h3 := of_decide_eq_true h2
    have h4 := hle e h1
    have h5 := h.ctm e h1
    have h6 := hnow (List.ne_nil_of_mem h1)
    show least s < e.1 ∧ e.1 ≤ least s + 1000
    omega
  · show 0 ≤ least s
    have := h.now
    omega
theorem Step.wake (B : Bd D num big) (h : Inv [] s) : Step num big E 40 s (wake D s) := by
  obtain ⟨h1, h2, h3, _⟩ := h.due
  unfold Rm.wake
  have h4 : Step num big E 1 s { s with now := least s, clock := s.clock.filter fun e => decide (e.1 ≠ least s) } :=
    ⟨rfl, Nat.le_succ _, Nat.le_refl _, Nat.le_succ _, Nat.le_succ _, fun _ _ h => h, fun _ _ h => Or.inl h, Nat.le_refl _, ⟨[], by simp⟩, rfl, h2, by show least s ≤ _; omega⟩
  have h5 := h1.pend_le
  exact (h4.trans (Step.rise B _ _ h1)).up (by omega)
theorem Step.endA (s : S α) (t : Nat) (hE : E t) : Step num big E 0 s (endA s t) := by
  have h1 : Step num big E 0 s (Rm.be s t 3) := Step.be s t 3 (fun _ => rfl) fun _ => hE
  have h2 : Step num big E 0 s { Rm.be s t 3 with live := s.live.filter fun i => decide (i ≠ t) } := ⟨h1.num, h1.big, h1.tl, h1.tk, h1.ev, h1.e3, h1.e4, h1.chs, h1.out, h1.glob, h1.now⟩
  unfold Rm.endA
  simp only
  split
  · exact (h2.trans (Step.ends _ 1)).up (Nat.le_refl _)
  · exact h2
theorem Step.forkA (B : Bd D num big) (s : S α) (t : Nat) (fn : Int) (args : List Int) : Step num big E 3 s (forkA D s t fn args) := by
  unfold Rm.forkA
  split
  · exact (Step.ends s 9).up (by omega)
  · have h1 : Step num big E 1 (Rm.tell s t 1 s.tasks.length) (Rm.begins D (Rm.tell s t 1 s.tasks.length) fn args) := by
      refine ⟨?_, B.big_begins _ _ _, ?_, ?_, Nat.le_succ _, fun i hi e => ?_, fun i hi e => ?_, Nat.le_refl _, ⟨[], by simp [Rm.begins]⟩, rfl, Int.le_refl _, by show s.now ≤ s.now + _; omega⟩
      · show num (D.begins s.d fn args) + s.tasks.length = num s.d + (s.tasks ++ [0]).length
        rw [B.num_begins, List.length_append, List.length_singleton]; omega
      · show s.tasks.length ≤ (s.tasks ++ [0]).length
        simp
      · show (s.tasks ++ [0]).length ≤ s.tasks.length + 1
        simp
      · have hi' : i < s.tasks.length := hi
        have e' : s.tasks.getD i 3 = 3 := e
        show (s.tasks ++ [0]).getD i 3 = 3
        rw [List.getD_eq_getElem?_getD, List.getElem?_append_left hi', ← List.getD_eq_getElem?_getD]; exact e'
      · have hi' : i < s.tasks.length := hi
        have e' : (s.tasks ++ [0]).getD i 3 = 3 := e
        rw [List.getD_eq_getElem?_getD, List.getElem?_append_left hi', ← List.getD_eq_getElem?_getD] at e'; exact Or.inl e'
    exact (((Step.tell s t 1 s.tasks.length).trans h1).trans (Step.give B _ _ _ _)).up (by omega)
theorem Step.sleepA (B : Bd D num big) (s : S α) {t : Nat} (ht : st s (t : Int) = 0) (n : Int) : Step num big E 1 s (sleepA D s t n) := by
  rw [st_nat] at ht
  unfold Rm.sleepA
  split
  · exact Step.give B _ _ _ _
  · have h1 : Step num big E 0 s { s with clock := s.clock ++ [(s.now + min n 1000, (t : Int))] } := ⟨rfl, Nat.le_refl _, Nat.le_refl _, Nat.le_refl _, Nat.le_refl _, fun _ _ h => h, fun _ _ h => Or.inl h, Nat.le_refl _, ⟨[], by simp⟩, rfl, Int.le_refl _, by show s.now ≤ _; omega⟩
    exact (h1.trans (Step.be _ t 2 (fun e => by have e' : s.tasks.getD t 3 = 3 := e; omega) fun e => by cases e)).up (by omega)
theorem Step.numberA (s : S α) (t : Nat) (a : Ask) : Step num big E 1 s (numberA s t a).1 := by
  have h0 := (Step.refl (num := num) (big := big) E s).up (k1 := 1) (by omega)
  unfold Rm.numberA
  split
  · exact h0
  split
  · split
    · exact h0
    split
    · exact h0
    · exact (Step.piped s _ (by show s.pipes.chs.length ≤ (s.pipes.chs ++ [_]).length; simp)).up (by omega)
  split
  · split
    · exact h0
    · exact ⟨rfl, Nat.le_succ _, Nat.le_refl _, Nat.le_succ _, Nat.le_succ _, fun _ _ h => h, fun _ _ h => Or.inl h, Nat.le_refl _, ⟨[a.n], rfl⟩, rfl, Int.le_refl _, by show s.now ≤ _; omega⟩
  split
  · split
    · exact Step.tell _ _ _ _
    · exact h0
  split
  · split
    · have h1 : Step num big E 0 s { s with globals := s.globals.set a.n.toNat (a.args.getD 0 0) } := ⟨rfl, Nat.le_refl _, Nat.le_refl _, Nat.le_refl _, Nat.le_refl _, fun _ _ h => h, fun _ _ h => Or.inl h, Nat.le_refl _, ⟨[], by simp⟩, by show (s.globals.set _ _).length = _; rw [List.length_set], Int.le_refl _, by show s.now ≤ _; omega⟩
      exact (h1.trans (Step.tell _ t 5 a.n)).up (by omega)
    · exact h0
  · exact h0
theorem wake_chs' (s : St) (t : Int) : (Pp.wake s t).chs.length = s.chs.length := by unfold Pp.wake; exact strike_len _ _ _
theorem wakeAll_chs : ∀ (r : List (Int × Nat)) (s : St), (wakeAll s r).1.chs.length = s.chs.length
  | [], _ => rfl
  | w :: r, s => by
    unfold wakeAll
    split
    · show (wakeAll (Pp.wake s w.1) r).1.chs.length = _
      rw [wakeAll_chs, wake_chs']
    · exact wakeAll_chs r s
theorem close_chs (s : St) (c : Int) : (Pp.close s c).st.chs.length = s.chs.length := by
  unfold Pp.close
  split
  · rfl
  · split
    · rfl
    · split
      · rfl
      · split
        · rfl
        · show (wakeAll _ _).1.chs.length = _
          rw [wakeAll_chs]; simp
theorem doT_chs (s : St) (x : Tk) : (Pp.doT s x).st.chs.length = s.chs.length := by
  unfold Pp.doT
  split
  · rfl
  · split
    · unfold Pp.recv
      split <;> simp [setNums, wake_chs']
    · unfold Pp.send
      split
      · rfl
      · split
        · simp [wake_chs']
        · split <;> simp [setNums]
theorem talk_chs (s : St) (t : Int) (l : List Tk) (draw : Int) : (Pp.talk s t l draw).st.chs.length = s.chs.length := by
  unfold Pp.talk
  split
  · rfl
  · split
    · rfl
    · split
      · rfl
      · split
        · simp only
          split <;> exact doT_chs _ _
        · split
          · rfl
          · exact lay_len _ _ _ _
theorem Step.shutA (B : Bd D num big) (h : Inv [] s) (t : Nat) (c : Int) : Step num big E 40 s (shutA D s t c) := by
  obtain ⟨h1, h2, h3, _⟩ := close_once s.pipes c
  have hi := h.piped (h.ok.close c) h1 h2 h3
  have hl := hi.pend_le
  rw [List.length_map] at hl
  have hp : Step num big E 0 s { s with pipes := (Pp.close s.pipes c).st } := Step.piped s _ (by rw [close_chs]; exact Nat.le_refl _)
  unfold Rm.shutA
  simp only
  split
  · exact (hp.trans (Step.ends _ 6)).up (by omega)
  split
  · exact (hp.trans (Step.ends _ _)).up (by omega)
  · have hi2 : Inv ((Pp.close s.pipes c).wakes.map (·.task)) (Rm.give D (Rm.tellEach (Rm.tell { s with pipes := (Pp.close s.pipes c).st } t 6 c) 7 c (Pp.close s.pipes c).wakes) t 0 0) := (Inv.tellEach _ (hi.tell _ _ _)).give _ _ _
    exact ((((hp.trans (Step.tell _ t 6 c)).trans (Step.tellEach _ _)).trans (Step.give B _ t 0 0)).trans (Step.resumeEach B _ _ hi2)).up (by omega)
theorem Step.talkA (B : Bd D num big) (h : Inv [] s) {t : Nat} (ht : st s (t : Int) = 0) (l : List Tk) (draw : Int) : Step num big E 40 s (talkA D s t l draw) := by
  have hp : Step num big E 0 s { s with pipes := (Pp.talk s.pipes t l draw).st } := Step.piped s _ (by rw [talk_chs]; exact Nat.le_refl _)
  unfold Rm.talkA
  simp only
  split
  · exact (hp.trans (Step.ends _ _)).up (by omega)
  next e =>
  have ht' := ht
  rw [st_nat] at ht'
  rcases talk_once h.ok (t : Int) l draw (by omega) with ⟨h1, _, h3⟩ | ⟨h1, h3⟩
  · rw [if_pos h1]
    exact (hp.trans (Step.be _ t 1 (fun e => by have e' : s.tasks.getD t 3 = 3 := e; omega) fun e => by cases e)).up (by omega)
  · rw [if_neg (by rw [h1]; decide)]
    have hi : Inv ((Pp.talk s.pipes t l draw).wakes.map (·.task)) { s with pipes := (Pp.talk s.pipes t l draw).st } := by
      rcases h3 with ⟨h4, h5⟩ | ⟨w, h4, h5, h6⟩
      · rw [h4]
        exact h.pipedN (h.ok.talk _ _ _) h5
      · rw [h4]
        exact h.piped (h.ok.talk _ _ _) (by simp) (fun x hx => by simp at hx; rw [hx]; exact h5) fun x => by rw [h6 x]; simp [and_comm]
    have hl := hi.pend_le
    rw [List.length_map] at hl
    exact (((hp.trans (Step.tellTalk _ t _ _ _)).trans (Step.give B _ t _ _)).trans (Step.resumeEach B _ _ (Inv.give (Inv.tellTalk hi _ _ _ _) _ _ _))).up (by omega)
theorem Step.doA (B : Bd D num big) (h : Inv [] s) {t : Nat} (ht : st s (t : Int) = 0) (a : Ask) (draw : Int) (hE : a.what = 1 → E t) : Step num big E 40 s (doA D s t a draw) := by
  unfold Rm.doA
  split
  · next e => exact (Step.endA s t (hE e)).up (by omega)
  split
  · exact (Step.refl E s).up (by omega)
  split
  · exact (Step.ends _ _).up (by omega)
  split
  · exact (Step.forkA B _ _ _ _).up (by omega)
  split
  · exact Step.talkA B h ht _ _
  split
  · exact Step.shutA B h _ _
  split
  · exact (Step.sleepA B _ ht _).up (by omega)
  · simp only
    split
    · exact ((Step.numberA _ _ _).trans (Step.ends _ _)).up (by omega)
    · exact ((Step.numberA _ _ _).trans (Step.give B _ _ _ _)).up (by omega)
theorem Step.next (B : Bd D num big) (s : S α) (t : Nat) : Step num big E 1 s { s with d := (D.next s.d t).1 } :=
  ⟨by show num (D.next s.d t).1 + _ = num s.d + _; rw [B.num_next], B.big_next _ _, Nat.le_refl _, Nat.le_succ _, Nat.le_succ _, fun _ _ h => h, fun _ _ h => Or.inl h, Nat.le_refl _, ⟨[], by simp⟩, rfl, Int.le_refl _, by show s.now ≤ _; omega⟩
theorem Step.stepA (B : Bd D num big) (h : Inv [] s) {t : Nat} (ht : st s (t : Int) = 0) (draw : Int) (hE : E t) : Step num big E 41 s (stepA D s t draw) := by
  unfold Rm.stepA
  simp only
  have h1 := (Step.next (D := D) (E := E) B s t).trans (Step.doA B (h.d (D.next s.d t).1) (t := t) ht (D.next s.d t).2 draw fun _ => hE)
  split
  · exact (h1.trans (Step.ends _ 2)).up (by omega)
  · exact h1.up (by omega)
theorem Step.turn (B : Bd D num big) (h : Inv [] s) (who draw : Int) : Step num big (fun _ => True) 50 s (turn D s who draw) := by
  unfold Rm.turn
  split
  · exact (Step.refl _ s).up (by omega)
  next hc =>
  simp only
  split
  · exact (Step.wake B h).up (by omega)
  next hk =>
  have h1 := drawn_lt who (m := choices s) (by omega)
  have h2 : choices s ≤ (ready s).length + 1 := by
    unfold choices
    split
    · split <;> omega
    · omega
  refine (Step.stepA B h (h.ready (t := (Rm.ready s).getD (drawn who (choices s)) 0) ?_).2 _ trivial).up (by omega)
  rw [List.getD_eq_getElem?_getD, List.getElem?_eq_getElem (by omega)]
  exact List.getElem_mem _
/-- A room behind at most n turns. -/
structure At (num big : α → Nat) (n : Nat) (s : S α) : Prop where
  inv : Inv [] s
  num : num s.d = s.tasks.length
  big : big s.d ≤ 50 * n + 1
  tasks : s.tasks.length ≤ 50 * n + 1
  one : 0 < s.tasks.length
  events : s.events.length ≤ 50 * n
  now : s.now ≤ 50000 * n
theorem At.turn (B : Bd D num big) {n : Nat} (h : At num big n s) (who draw : Int) : At num big (n + 1) (turn D s who draw) := by
  have h1 := Step.turn B h.inv who draw
  have := h.num; have := h.big; have := h.tasks; have := h.events; have := h.now; have := h.one
  have := h1.num; have := h1.big; have := h1.tk; have := h1.tl; have := h1.ev; have := h1.now
  exact ⟨h.inv.turn _ _, by omega, by omega, by omega, by omega, by omega, by omega⟩
theorem At.play (B : Bd D num big) : ∀ (l : List (Int × Int)) {s : S α} {n : Nat}, At num big n s → At num big (n + l.length) (play D s l).1
  | [], _, _, h => h
  | q :: l, s, n, h => by
    unfold Rm.play
    split
    · show At num big (n + (q :: l).length) s
      exact ⟨h.inv, h.num, by have := h.big; omega, by have := h.tasks; omega, h.one, by have := h.events; omega, by have := h.now; simp only [List.length_cons]; omega⟩
    · have := At.play B l (h.turn B q.1 q.2)
      rw [show n + 1 + l.length = n + (q :: l).length by simp only [List.length_cons]; omega] at this
      exact this
theorem At.start (B : Bd D num big) {g : Nat} (hg : g ≤ 8) {d : α} (h0 : num d = 0) (h1 : big d = 0) : At num big 0 (start D g d) := by
  refine ⟨Inv.start hg d, ?_, ?_, Nat.le_refl _, Nat.one_pos, Nat.le_refl _, Int.le_refl _⟩
  · show num (D.begins d 0 []) = 1
    rw [B.num_begins, h0]
  · have := B.big_begins d 0 []
    show big (D.begins d 0 []) ≤ _
    omega
end
end Rm
end Go.Proofs.YtnjdmijcoadidaaGreatDoor

namespace Go.Proofs.YtnjdmijcoadidaaGreatDoor
namespace Rm
open Pp

section
variable {α : Type} {D : Doer α} {s s' : S α} {p : List Int}
/-- How many tasks there are behind an event (none: that may not be). -/
def forkE (n : Int) (e : Ev) : Option Int := if e.task < 0 ∨ n ≤ e.task then none else if e.what = 1 then (if e.obj = n then some (n + 1) else none) else some n
def forks : Int → List Ev → Option Int
  | n, [] => some n
  | n, e :: l => (forkE n e).bind fun m => forks m l
theorem forks_append (a b : List Ev) : ∀ n, forks n (a ++ b) = (forks n a).bind fun m => forks m b := by
  induction a with
  | nil => intro n; rfl
  | cons e a ih =>
    intro n
    show (forkE n e).bind (fun m => forks m (a ++ b)) = ((forkE n e).bind fun m => forks m a).bind fun m => forks m b
    cases forkE n e with
    | none => rfl
    | some m => exact ih m
/-- The events tell just the tasks that there are. -/
def FI (s : S α) : Prop := forks 1 s.events = some (s.tasks.length : Int)
theorem FI.of (h : FI s) (he : s'.events = s.events) (ht : s'.tasks.length = s.tasks.length) : FI s' := by unfold FI; rw [he, ht]; exact h
theorem FI.tell (h : FI s) {t what obj : Int} (h0 : 0 ≤ t) (h1 : t < (s.tasks.length : Int)) (hw : what ≠ 1) : FI (tell s t what obj) := by
  unfold FI at h ⊢
  show forks 1 (s.events ++ [⟨t, what, obj⟩]) = some (s.tasks.length : Int)
  rw [forks_append, h]
  show (forkE (s.tasks.length : Int) ⟨t, what, obj⟩).bind (fun m => forks m []) = _
  unfold forkE
  simp only
  rw [if_neg (by omega), if_neg hw]
  rfl
theorem FI.tellEach {what c : Int} (hw : what ≠ 1) : ∀ (l : List Wk) {s : S α}, FI s → (∀ w ∈ l, 0 ≤ w.task ∧ w.task < (s.tasks.length : Int)) → FI (tellEach s what c l)
  | [], _, h, _ => h
  | w :: l, _, h, hl => FI.tellEach hw l (h.tell (hl w List.mem_cons_self).1 (hl w List.mem_cons_self).2 hw) fun x hx => hl x (List.mem_cons_of_mem _ hx)
theorem tellEach_same {what c : Int} : ∀ (l : List Wk) (s : S α), (tellEach s what c l).tasks = s.tasks ∧ (tellEach s what c l).pipes = s.pipes ∧ (tellEach s what c l).fin = s.fin
  | [], _ => ⟨rfl, rfl, rfl⟩
  | w :: l, s => tellEach_same l (tell s w.task what c)
theorem tellTalk_same (s : S α) (t : Nat) (x : Tk) (k : Nat) (wk : List Wk) : (tellTalk s t x k wk).tasks = s.tasks ∧ (tellTalk s t x k wk).pipes = s.pipes ∧ (tellTalk s t x k wk).fin = s.fin := by
  unfold Rm.tellTalk
  split
  · exact ⟨rfl, rfl, rfl⟩
  split
  · exact tellEach_same wk (Rm.tell s t 2 x.chan)
  split
  · exact tellEach_same wk (Rm.tell s t 3 x.chan)
  split
  · exact tellEach_same wk s
  · exact ⟨rfl, rfl, rfl⟩
/-- What stays where tasks go on. -/
structure Alike (s s' : S α) : Prop where
  events : s'.events = s.events
  len : s'.tasks.length = s.tasks.length
  pipes : s'.pipes = s.pipes
  fin : s'.fin = s.fin
theorem resume_alike (s : S α) (t : Nat) (c n : Int) : Alike s (resume D s t c n) := ⟨rfl, by show (s.tasks.set _ _).length = _; rw [List.length_set], rfl, rfl⟩
theorem Alike.trans {s1 s2 : S α} (h : Alike s s1) (h' : Alike s1 s2) : Alike s s2 := ⟨h'.events.trans h.events, h'.len.trans h.len, h'.pipes.trans h.pipes, h'.fin.trans h.fin⟩
theorem resumeEach_alike : ∀ (l : List Wk) (s : S α), Alike s (resumeEach D s l)
  | [], _ => ⟨rfl, rfl, rfl, rfl⟩
  | w :: l, s => (resume_alike s w.task.toNat w.case w.n).trans (resumeEach_alike l _)
theorem rise_alike : ∀ (l : List Int) (s : S α), Alike s (rise D s l)
  | [], _ => ⟨rfl, rfl, rfl, rfl⟩
  | x :: l, s => (resume_alike s x.toNat 0 0).trans (rise_alike l _)
theorem wake_alike (s : S α) : Alike s (wake D s) := by
  have h := rise_alike (D := D) (first s) { s with now := least s, clock := s.clock.filter fun e => decide (e.1 ≠ least s) }
  exact ⟨h.events, h.len, h.pipes, h.fin⟩
theorem pend_in (h : Inv p s) {x : Int} (hx : x ∈ p) : 0 ≤ x ∧ x < (s.tasks.length : Int) := by
  have h1 := h.pend x hx
  obtain ⟨h2, h3⟩ := st_lt (s := s) (x := x) (by omega)
  omega
theorem FI.tellTalk (h : FI s) {t : Nat} (ht : t < s.tasks.length) (x : Tk) (k : Nat) {wk : List Wk} (hw : ∀ w ∈ wk, 0 ≤ w.task ∧ w.task < (s.tasks.length : Int)) : FI (tellTalk s t x k wk) := by
  have h1 : (0 : Int) ≤ (t : Int) ∧ (t : Int) < (s.tasks.length : Int) := by omega
  unfold Rm.tellTalk
  split
  · exact h
  split
  · exact FI.tellEach (by decide) wk (h.tell h1.1 h1.2 (by decide)) hw
  split
  · exact FI.tellEach (by decide) wk (h.tell h1.1 h1.2 (by decide)) hw
  split
  · exact (FI.tellEach (by decide) wk h hw).tell h1.1 (by rw [(tellEach_same wk s).1]; exact h1.2) (by decide)
  · exact h.tell h1.1 h1.2 (by decide)
/-- Those that go on by a talk. -/
theorem talk_pend (h : Inv [] s) {t : Nat} {l : List Tk} {draw : Int} (e : (Pp.talk s.pipes t l draw).err = 0) (hw : (Pp.talk s.pipes t l draw).waits = false) : Inv ((Pp.talk s.pipes t l draw).wakes.map (·.task)) { s with pipes := (Pp.talk s.pipes t l draw).st } ∧ (Pp.talk s.pipes t l draw).wakes.length ≤ 1 := by
  rcases talk_once h.ok (t : Int) l draw e with ⟨h1, _, h3⟩ | ⟨h1, h3⟩
  · rw [hw] at h1; cases h1
  · rcases h3 with ⟨h4, h5⟩ | ⟨w, h4, h5, h6⟩
    · rw [h4]
      exact ⟨h.pipedN (h.ok.talk _ _ _) h5, Nat.zero_le _⟩
    · rw [h4]
      exact ⟨h.piped (h.ok.talk _ _ _) (by simp) (fun x hx => by simp at hx; rw [hx]; exact h5) fun x => by rw [h6 x]; simp [and_comm], Nat.le_refl _⟩
theorem FI.talkA (h : FI s) (hi : Inv [] s) {t : Nat} (ht : t < s.tasks.length) (l : List Tk) (draw : Int) : FI (talkA D s t l draw) := by
  unfold Rm.talkA
  simp only
  split
  · exact h
  next e =>
  split
  · exact h.of rfl (by show (s.tasks.set _ _).length = _; rw [List.length_set])
  next e2 =>
  obtain ⟨h1, _⟩ := talk_pend hi (t := t) (l := l) (draw := draw) (by omega) (by simpa using e2)
  have h2 : FI { s with pipes := (Pp.talk s.pipes t l draw).st } := h
  have h3 := h2.tellTalk (t := t) ht (l.getD (Pp.talk s.pipes t l draw).case.toNat ⟨0, 0, 0⟩) (had s (l.getD (Pp.talk s.pipes t l draw).case.toNat ⟨0, 0, 0⟩).chan) (wk := (Pp.talk s.pipes t l draw).wakes) fun w hw => pend_in h1 (List.mem_map.2 ⟨w, hw, rfl⟩)
  have h4 := resumeEach_alike (D := D) (Pp.talk s.pipes t l draw).wakes (Rm.give D (Rm.tellTalk { s with pipes := (Pp.talk s.pipes t l draw).st } t (l.getD (Pp.talk s.pipes t l draw).case.toNat ⟨0, 0, 0⟩) (had s (l.getD (Pp.talk s.pipes t l draw).case.toNat ⟨0, 0, 0⟩).chan) (Pp.talk s.pipes t l draw).wakes) t (Pp.talk s.pipes t l draw).case (Pp.talk s.pipes t l draw).n)
  exact FI.of h3 h4.events h4.len
theorem FI.shutA (h : FI s) (hi : Inv [] s) {t : Nat} (ht : t < s.tasks.length) (c : Int) : FI (shutA D s t c) := by
  obtain ⟨h1, h2, h3, _⟩ := close_once s.pipes c
  have hp := hi.piped (hi.ok.close c) h1 h2 h3
  unfold Rm.shutA
  simp only
  split
  · exact h
  split
  · exact h
  · have h4 : FI (Rm.tell { s with pipes := (Pp.close s.pipes c).st } t 6 c) := FI.tell (s := { s with pipes := (Pp.close s.pipes c).st }) h (by omega) (by show (t : Int) < (s.tasks.length : Int); omega) (by decide)
    have h5 := FI.tellEach (what := 7) (c := c) (by decide) (Pp.close s.pipes c).wakes h4 fun w hw => pend_in hp (List.mem_map.2 ⟨w, hw, rfl⟩)
    have h6 := resumeEach_alike (D := D) (Pp.close s.pipes c).wakes (Rm.give D (Rm.tellEach (Rm.tell { s with pipes := (Pp.close s.pipes c).st } t 6 c) 7 c (Pp.close s.pipes c).wakes) t 0 0)
    exact FI.of h5 h6.events h6.len
theorem FI.forkA (h : FI s) {t : Nat} (ht : t < s.tasks.length) (fn : Int) (args : List Int) : FI (forkA D s t fn args) := by
  unfold Rm.forkA
  split
  · exact h
  · show forks 1 (s.events ++ [⟨(t : Int), 1, (s.tasks.length : Int)⟩]) = some ((s.tasks ++ [0]).length : Int)
    rw [forks_append, h]
    show (forkE (s.tasks.length : Int) ⟨t, 1, (s.tasks.length : Int)⟩).bind (fun m => forks m []) = _
    unfold forkE
    simp only
    rw [if_neg (by omega), if_pos trivial, if_pos trivial, List.length_append, List.length_singleton]
    rfl
theorem FI.numberA (h : FI s) {t : Nat} (ht : t < s.tasks.length) (a : Ask) : FI (numberA s t a).1 := by
  have h1 : (0 : Int) ≤ (t : Int) ∧ (t : Int) < (s.tasks.length : Int) := by omega
  unfold Rm.numberA
  split
  · exact h
  split
  · split
    · exact h
    split <;> exact h
  split
  · split <;> exact h
  split
  · split
    · exact h.tell h1.1 h1.2 (by decide)
    · exact h
  split
  · split
    · exact FI.tell (s := { s with globals := s.globals.set a.n.toNat (a.args.getD 0 0) }) h h1.1 h1.2 (by decide)
    · exact h
  · exact h
theorem FI.doA (h : FI s) (hi : Inv [] s) {t : Nat} (ht : t < s.tasks.length) (a : Ask) (draw : Int) : FI (doA D s t a draw) := by
  unfold Rm.doA
  split
  · unfold Rm.endA
    simp only
    split
    · exact h.of rfl (by show (s.tasks.set _ _).length = _; rw [List.length_set])
    · exact h.of rfl (by show (s.tasks.set _ _).length = _; rw [List.length_set])
  split
  · exact h
  split
  · exact h
  split
  · exact h.forkA ht _ _
  split
  · exact h.talkA hi ht _ _
  split
  · exact h.shutA hi ht _
  split
  · unfold Rm.sleepA
    split
    · exact h
    · exact h.of rfl (by show (s.tasks.set _ _).length = _; rw [List.length_set])
  · simp only
    split
    · exact h.numberA ht _
    · exact h.numberA ht _
/-- What a turn keeps, if what is done for each thing that is asked keeps it, and the clock does. -/
theorem turn_keeps {I : S α → Prop} (hd : ∀ s t, I s → I { s with d := (D.next s.d t).1 }) (he : ∀ s, I s → I (ends s 2)) (hw : ∀ s, Inv [] s → I s → I (wake D s)) (hdo : ∀ s (t : Nat) a draw, I s → Inv [] s → st s (t : Int) = 0 → I (doA D s t a draw))
    (hi : Inv [] s) (h : I s) (who draw : Int) : I (turn D s who draw) := by
  unfold Rm.turn
  split
  · exact h
  next hc =>
  simp only
  split
  · exact hw s hi h
  next hk =>
  have h1 := drawn_lt who (m := choices s) (by omega)
  have h2 : choices s ≤ (ready s).length + 1 := by
    unfold choices
    split
    · split <;> omega
    · omega
  have h3 := (hi.ready (t := (Rm.ready s).getD (drawn who (choices s)) 0) (by
    rw [List.getD_eq_getElem?_getD, List.getElem?_eq_getElem (by omega)]
    exact List.getElem_mem _)).2
  unfold Rm.stepA
  simp only
  have h4 := hdo _ _ (D.next s.d ((Rm.ready s).getD (drawn who (choices s)) 0)).2 draw (hd s ((Rm.ready s).getD (drawn who (choices s)) 0) h) (hi.d _) h3
  split
  · exact he _ h4
  · exact h4
theorem play_keeps {I : S α → Prop} (ht : ∀ s who draw, Inv [] s → I s → I (turn D s who draw)) : ∀ (l : List (Int × Int)) {s : S α}, Inv [] s → I s → I (play D s l).1
  | [], _, _, h => h
  | q :: l, s, hi, h => by
    unfold Rm.play
    split
    · exact h
    · exact play_keeps ht l (hi.turn _ _) (ht _ _ _ hi h)
theorem st_in {t : Nat} (h : st s (t : Int) = 0) : t < s.tasks.length := by
  have := (st_lt (s := s) (x := (t : Int)) (by omega)).2
  simpa using this
theorem FI.play (l : List (Int × Int)) (hi : Inv [] s) (h : FI s) : FI (play D s l).1 :=
  play_keeps (fun _ who draw hi h => turn_keeps (fun _ _ h => h) (fun _ h => h) (fun s _ h => h.of (wake_alike s).events (wake_alike s).len) (fun _ _ a draw h hi ht => h.doA hi (st_in ht) a draw) hi h who draw) l hi h
theorem FI.start (g : Nat) (d : α) : FI (start D g d) := rfl
end
end Rm
end Go.Proofs.YtnjdmijcoadidaaGreatDoor

namespace Go.Proofs.YtnjdmijcoadidaaGreatDoor
namespace Rm
open Pp

/-- What an event adds to a channel. -/
def balE (c : Int) (e : Ev) : Int := if e.obj = c then (if e.what = 2 then 1 else if e.what = 3 then -1 else 0) else 0
def bal (c : Int) : List Ev → Int
  | [] => 0
  | e :: l => balE c e + bal c l
theorem bal_append (c : Int) (a b : List Ev) : bal c (a ++ b) = bal c a + bal c b := by
  induction a with
  | nil => show bal c b = 0 + bal c b; omega
  | cons e a ih => show balE c e + bal c (a ++ b) = balE c e + bal c a + bal c b; rw [ih]; omega
/-- Events of m channels, that hold so many numbers each. -/
structure EvI (m : Nat) (f : Nat → Int) (l : List Ev) : Prop where
  pre : ∀ i c, 0 ≤ bal c (l.take i)
  obj : ∀ e ∈ l, (e.what = 2 ∨ e.what = 3) → 1 ≤ e.obj ∧ e.obj ≤ (m : Int)
  val : ∀ k, k < m → bal ((k : Int) + 1) l = f k
theorem bal_out {m : Nat} {l : List Ev} (h : ∀ e ∈ l, (e.what = 2 ∨ e.what = 3) → 1 ≤ e.obj ∧ e.obj ≤ (m : Int)) {c : Int} (hc : c < 1 ∨ (m : Int) < c) : bal c l = 0 := by
  induction l with
  | nil => rfl
  | cons e l ih =>
    show balE c e + bal c l = 0
    rw [ih fun x hx => h x (List.mem_cons_of_mem _ hx)]
    have h1 := h e List.mem_cons_self
    unfold balE
    by_cases e1 : e.obj = c
    · rw [if_pos e1]
      by_cases e2 : e.what = 2
      · have := h1 (Or.inl e2); omega
      · rw [if_neg e2]
        by_cases e3 : e.what = 3
        · have := h1 (Or.inr e3); omega
        · rw [if_neg e3]; rfl
    · rw [if_neg e1]; rfl
theorem EvI.snoc {m : Nat} {f g : Nat → Int} {l : List Ev} (h : EvI m f l) (e : Ev) (ho : (e.what = 2 ∨ e.what = 3) → 1 ≤ e.obj ∧ e.obj ≤ (m : Int)) (hg : ∀ k, k < m → g k = f k + balE ((k : Int) + 1) e) (h0 : ∀ k, k < m → 0 ≤ g k) : EvI m g (l ++ [e]) := by
  have hob : ∀ x ∈ l ++ [e], (x.what = 2 ∨ x.what = 3) → 1 ≤ x.obj ∧ x.obj ≤ (m : Int) := fun x hx hw => by
    rcases List.mem_append.1 hx with h1 | h1
    · exact h.obj x h1 hw
    · rw [List.mem_singleton] at h1; rw [h1] at hw ⊢; exact ho hw
  have hval : ∀ k, k < m → bal ((k : Int) + 1) (l ++ [e]) = g k := fun k hk => by
    rw [bal_append, h.val k hk, hg k hk]
    show f k + (balE _ e + 0) = _
    omega
  refine ⟨fun i c => ?_, hob, hval⟩
  rcases Nat.lt_or_ge l.length i with hi | hi
  · rw [List.take_of_length_le (by rw [List.length_append, List.length_singleton]; omega)]
    by_cases hc : c < 1 ∨ (m : Int) < c
    · rw [bal_out hob hc]; exact Int.le_refl _
    · have h1 := hval (c - 1).toNat (by omega)
      rw [show (((c - 1).toNat : Nat) : Int) + 1 = c by omega] at h1
      rw [h1]
      exact h0 _ (by omega)
  · rw [List.take_append_of_le_length hi]
    exact h.pre i c
theorem EvI.other {m : Nat} {f : Nat → Int} {l : List Ev} (h : EvI m f l) (e : Ev) (h2 : e.what ≠ 2) (h3 : e.what ≠ 3) : EvI m f (l ++ [e]) :=
  h.snoc e (fun hw => by rcases hw with e | e <;> contradiction) (fun k hk => by unfold balE; rw [if_neg h2, if_neg h3]; split <;> omega) fun k hk => by
    have := h.pre l.length ((k : Int) + 1)
    rw [List.take_length, h.val k hk] at this
    exact this
theorem EvI.nonneg {m : Nat} {f : Nat → Int} {l : List Ev} (h : EvI m f l) {k : Nat} (hk : k < m) : 0 ≤ f k := by
  have := h.pre l.length ((k : Int) + 1)
  rw [List.take_length, h.val k hk] at this
  exact this
theorem EvI.send {m : Nat} {f g : Nat → Int} {l : List Ev} (h : EvI m f l) {i : Nat} (hi : i < m) (t : Int) (hg : ∀ k, g k = f k + if k = i then 1 else 0) : EvI m g (l ++ [⟨t, 2, (i : Int) + 1⟩]) :=
  h.snoc _ (fun _ => by show 1 ≤ (i : Int) + 1 ∧ (i : Int) + 1 ≤ m; omega) (fun k hk => by
    rw [hg]; unfold balE; simp only
    by_cases e : k = i
    · rw [if_pos e, if_pos (by omega), if_pos trivial]
    · rw [if_neg e, if_neg (by omega)]) fun k hk => by
    have := h.nonneg hk
    rw [hg]; split <;> omega
theorem EvI.recv {m : Nat} {f g : Nat → Int} {l : List Ev} (h : EvI m f l) {i : Nat} (hi : i < m) (t : Int) (h1 : 1 ≤ f i) (hg : ∀ k, g k = f k - if k = i then 1 else 0) : EvI m g (l ++ [⟨t, 3, (i : Int) + 1⟩]) :=
  h.snoc _ (fun _ => by show 1 ≤ (i : Int) + 1 ∧ (i : Int) + 1 ≤ m; omega) (fun k hk => by
    rw [hg]; unfold balE; simp only
    by_cases e : k = i
    · rw [if_pos e, if_pos (by omega), if_neg (by decide), if_pos trivial]; omega
    · rw [if_neg e, if_neg (by omega)]; omega) fun k hk => by
    have := h.nonneg hk
    rw [hg]; split
    · next e => rw [e]; omega
    · omega
theorem EvI.congr {m : Nat} {f g : Nat → Int} {l : List Ev} (h : EvI m f l) (hg : ∀ k, k < m → g k = f k) : EvI m g l := ⟨h.pre, h.obj, fun k hk => by rw [hg k hk]; exact h.val k hk⟩
theorem EvI.more {m : Nat} {f : Nat → Int} {l : List Ev} (h : EvI m f l) (h0 : f m = 0) : EvI (m + 1) f l := by
  refine ⟨h.pre, fun e he hw => ?_, fun k hk => ?_⟩
  · have := h.obj e he hw; omega
  · rcases Nat.lt_or_ge k m with h1 | h1
    · exact h.val k h1
    · obtain rfl : k = m := by omega
      rw [h0]
      exact bal_out h.obj (Or.inr (by omega))
section
variable {α : Type} {D : Doer α} {s s' : S α} {p : List Int}
/-- How many numbers the channel in a place has. -/
def numsN (q : St) (k : Nat) : Int := ((q.chs[k]?.map fun c => c.nums.length).getD 0 : Nat)
def BI (s : S α) : Prop := EvI s.pipes.chs.length (numsN s.pipes) s.events
theorem BI.of (h : BI s) (he : s'.events = s.events) (hl : s'.pipes.chs.length = s.pipes.chs.length) (hn : ∀ k, numsN s'.pipes k = numsN s.pipes k) : BI s' := by
  unfold BI
  rw [he, hl]
  exact EvI.congr h fun k _ => hn k
theorem numsN_get {q : St} {k : Nat} {c : Ch} (h : q.chs[k]? = some c) : numsN q k = (c.nums.length : Nat) := by unfold numsN; rw [h]; rfl
theorem numsN_none {q : St} {k : Nat} (h : q.chs[k]? = none) : numsN q k = 0 := by unfold numsN; rw [h]; rfl
theorem numsN_strike (task : Int) {l : List Tk} (hl : ∀ x ∈ l, 0 ≤ x.chan) (chs : List Ch) (a b : Int → Option (List Tk)) (k : Nat) : numsN ⟨strike task l chs, a⟩ k = numsN ⟨chs, b⟩ k := by
  rcases Nat.lt_or_ge k chs.length with h | h
  · obtain ⟨c', h1, h2⟩ := strike_get (task := task) hl (List.getElem?_eq_getElem h)
    rw [numsN_get (q := ⟨strike task l chs, a⟩) h1, numsN_get (q := ⟨chs, b⟩) (List.getElem?_eq_getElem h), h2.nums]
  · rw [numsN_none (q := ⟨strike task l chs, a⟩), numsN_none (q := ⟨chs, b⟩)]
    · exact List.getElem?_eq_none h
    · exact List.getElem?_eq_none (by rw [strike_len]; exact h)
theorem numsN_wake {q : St} (ok : Ok q) (t : Int) (k : Nat) : numsN (Pp.wake q t) k = numsN q k := by
  cases h : q.asks t with
  | none =>
    unfold Pp.wake
    rw [h]
    rfl
  | some l =>
    rw [wake_some h]
    exact numsN_strike t (ok.le h) q.chs _ _ k
theorem numsN_set (q : St) (j : Nat) (nums : List Int) (k : Nat) (hj : j < q.chs.length) : numsN (setNums q j nums) k = if k = j then (nums.length : Int) else numsN q k := by
  unfold numsN setNums
  simp only
  rw [List.getElem?_modify]
  by_cases e : k = j
  · rw [if_pos e, e, List.getElem?_eq_getElem hj]
    simp
  · rw [if_neg e]
    have e' : ¬ j = k := fun h => e h.symm
    simp [e']
theorem numsN_wakeAll : ∀ (r : List (Int × Nat)) {q : St}, Ok q → ∀ k, numsN (wakeAll q r).1 k = numsN q k
  | [], _, _, _ => rfl
  | w :: r, q, ok, k => by
    unfold wakeAll
    cases h : q.asks w.1 with
    | none => simpa using numsN_wakeAll r ok k
    | some l =>
      show numsN (wakeAll (Pp.wake q w.1) r).1 k = _
      rw [numsN_wakeAll r (ok.wake h) k]
      exact numsN_wake ok _ _
theorem numsN_close {q : St} (ok : Ok q) (c : Int) (k : Nat) : numsN (Pp.close q c).st k = numsN q k := by
  unfold Pp.close
  split
  · rfl
  · split
    · rfl
    · split
      · rfl
      · split
        · rfl
        · next x hx _ _ =>
          show numsN (wakeAll _ _).1 k = _
          rw [numsN_wakeAll _ (ok.modify (c - 1).toNat (fun c => { c with shut := true, recvs := [] }) (fun _ _ e => e) (fun _ _ e => absurd e List.not_mem_nil) fun c' hc' => ⟨rfl, (ok.caps _ c' hc').2⟩)]
          unfold numsN
          simp only
          rw [List.getElem?_modify]
          cases q.chs[k]? with
          | none => rfl
          | some y => split <;> rfl
theorem numsN_wait {q : St} (task : Int) {l : List Tk} {m : Nat} (hl : ∀ x ∈ l, x.good m) (k : Nat) : numsN (Pp.wait q task l) k = numsN q k := by
  unfold Pp.wait
  rcases Nat.lt_or_ge k q.chs.length with h | h
  · have hk : k < (lay task q.chs l 0).length := by rw [lay_len]; exact h
    obtain ⟨c0, h0, h1⟩ := get_lay (task := task) (i := 0) hl (List.getElem?_eq_getElem hk)
    rw [numsN_get (q := ⟨lay task q.chs l 0, _⟩) (List.getElem?_eq_getElem hk), numsN_get h0, h1]
  · rw [numsN_none (List.getElem?_eq_none h), numsN_none]
    exact List.getElem?_eq_none (by rw [lay_len]; exact h)
/-- What a talk that is done does to numbers. -/
inductive Did (q : St) (x : Tk) (g : Got) (i : Nat) : Prop where
  | send (h : x.what ≠ 10) (w : g.wakes = []) (n : ∀ k, numsN g.st k = numsN q k + if k = i then 1 else 0) : Did q x g i
  | give (h : x.what ≠ 10) (w : ∃ y, g.wakes = [y]) (n : ∀ k, numsN g.st k = numsN q k) : Did q x g i
  | take (h : x.what = 10) (h0 : 0 < numsN q i) (w : g.wakes = []) (n : ∀ k, numsN g.st k = numsN q k - if k = i then 1 else 0) : Did q x g i
  | turn (h : x.what = 10) (h0 : 0 < numsN q i) (w : ∃ y, g.wakes = [y]) (n : ∀ k, numsN g.st k = numsN q k) : Did q x g i
  | hand (h : x.what = 10) (h0 : numsN q i = 0) (w : ∃ y, g.wakes = [y]) (n : ∀ k, numsN g.st k = numsN q k) : Did q x g i
  | none (h : x.what = 10) (h0 : numsN q i = 0) (w : g.wakes = []) (n : ∀ k, numsN g.st k = numsN q k) : Did q x g i
theorem doT_did {q : St} (ok : Ok q) {x : Tk} {i : Nat} {c : Ch} (hx : x.chan = (i : Int) + 1) (hc : q.chs[i]? = some c) (he : (doT q x).err = 0) : Did q x (doT q x) i := by
  have hi := (List.getElem?_eq_some_iff.1 hc).1
  have hq : numsN q i = (c.nums.length : Nat) := numsN_get hc
  have hto : (x.chan - 1).toNat = i := by omega
  unfold doT at he ⊢
  rw [hto, hc] at he ⊢
  simp only at he ⊢
  by_cases hw : x.what = 10
  · rw [if_pos hw] at he ⊢
    unfold Pp.recv at he ⊢
    split
    · next hn hs => exact .none hw (by rw [hq, hn]; rfl) rfl fun _ => rfl
    · next w r hn hs => exact .hand hw (by rw [hq, hn]; rfl) ⟨_, rfl⟩ fun k => numsN_wake ok _ _
    · next y r hn hs =>
      refine .take hw (by rw [hq, hn]; simp only [List.length_cons]; omega) rfl fun k => ?_
      show numsN (setNums q i r) k = _
      rw [numsN_set _ _ _ _ hi]
      split
      · next e => rw [e, hq, hn]; simp only [List.length_cons]; omega
      · omega
    · next y r w r2 hn hs =>
      refine .turn hw (by rw [hq, hn]; simp only [List.length_cons]; omega) ⟨_, rfl⟩ fun k => ?_
      have ok1 : Ok (setNums q i r) := ok.nums i r fun c' hc' => by
        rw [hc] at hc'; cases hc'
        have := (ok.caps i c hc).2
        rw [hn] at this
        simp only [List.length_cons] at this
        omega
      show numsN (setNums (Pp.wake (setNums q i r) w.1) i (r ++ [sent q w])) k = _
      rw [numsN_set _ _ _ _ (by rw [wake_chs']; unfold setNums; simp only [List.length_modify]; exact hi), numsN_wake ok1, numsN_set _ _ _ _ hi]
      split
      · next e => rw [e, hq, hn]; simp
      · rfl
  · rw [if_neg hw] at he ⊢
    unfold Pp.send at he ⊢
    by_cases hs : c.shut = true
    · rw [if_pos hs] at he; cases he
    · rw [if_neg hs] at he ⊢
      split
      · next w r hr => exact .give hw ⟨_, rfl⟩ fun k => numsN_wake ok _ _
      · next hr =>
        rw [hr] at he
        simp only at he
        by_cases hf : c.nums.length = c.size
        · rw [if_pos hf] at he; cases he
        · rw [if_neg hf]
          refine .send hw rfl fun k => ?_
          show numsN (setNums q i (c.nums ++ [x.n])) k = _
          rw [numsN_set _ _ _ _ hi]
          split
          · next e => rw [e, hq, List.length_append, List.length_singleton]; omega
          · omega
/-- Which talk was done. -/
theorem talk_done {q : St} (ok : Ok q) (t : Int) (l : List Tk) (draw : Int) (he : (Pp.talk q t l draw).err = 0) (hw : (Pp.talk q t l draw).waits = false) :
    (∃ x i c, l[(Pp.talk q t l draw).case.toNat]? = some x ∧ (x.what = 3 ∨ x.what = 10) ∧ x.chan = ((i : Nat) : Int) + 1 ∧ q.chs[i]? = some c ∧ Did q x ⟨(Pp.talk q t l draw).st, (Pp.talk q t l draw).n, (Pp.talk q t l draw).wakes, 0⟩ i) ∨
    (∃ x, l[(Pp.talk q t l draw).case.toNat]? = some x ∧ x.what = 40 ∧ (Pp.talk q t l draw).st = q ∧ (Pp.talk q t l draw).wakes = []) := by
  have hgood : ∀ (l : List Tk) (m k : Nat) (o : Int), (other m l k o).2 = 0 → ∀ x ∈ l, x.what = 40 ∨ ((x.what = 3 ∨ x.what = 10) ∧ 0 ≤ x.chan) := by
    intro l
    induction l with
    | nil => intro m k o _ x hx; cases hx
    | cons y l ih =>
      intro m k o h x hx
      unfold other at h
      by_cases e1 : y.what = 40
      · rw [if_pos e1] at h
        split at h
        · cases h
        · rcases List.mem_cons.1 hx with rfl | hx
          · exact Or.inl e1
          · exact ih _ _ _ h x hx
      · rw [if_neg e1] at h
        split at h
        · cases h
        · next e2 =>
          split at h
          · cases h
          · next e3 =>
            rcases List.mem_cons.1 hx with rfl | hx
            · refine Or.inr ⟨by omega, ?_⟩
              have e4 : may m x.chan = true := by simpa using e3
              unfold may at e4
              simp only [Bool.and_eq_true, decide_eq_true_eq] at e4
              exact e4.1
            · exact ih _ _ _ h x hx
  have hother : ∀ (l : List Tk) (m k : Nat) (o : Int), (other m l k o).2 = 0 → 0 ≤ (other m l k o).1 → (other m l k o).1 = o ∨ ∃ j : Nat, (other m l k o).1 = ((k + j : Nat) : Int) ∧ ∃ x, l[j]? = some x ∧ x.what = 40 := by
    intro l
    induction l with
    | nil => intro m k o _ _; exact Or.inl rfl
    | cons y l ih =>
      intro m k o h h0
      unfold other at h h0 ⊢
      by_cases e1 : y.what = 40
      · rw [if_pos e1] at h h0 ⊢
        split at h
        · cases h
        · next e2 =>
          rw [if_neg e2] at h0 ⊢
          rcases ih m (k + 1) (k : Int) h h0 with h3 | ⟨j, h3, x, h4, h5⟩
          · exact Or.inr ⟨0, by rw [h3]; rfl, y, rfl, e1⟩
          · exact Or.inr ⟨j + 1, by rw [h3]; omega, x, by simpa using h4, h5⟩
      · rw [if_neg e1] at h h0 ⊢
        split at h
        · cases h
        · next e2 =>
          rw [if_neg e2] at h0 ⊢
          split at h
          · cases h
          · next e3 =>
            rw [if_neg e3] at h0 ⊢
            rcases ih m (k + 1) o h h0 with h3 | ⟨j, h3, x, h4, h5⟩
            · exact Or.inl h3
            · exact Or.inr ⟨j + 1, by rw [h3]; omega, x, by simpa using h4, h5⟩
  unfold Pp.talk at he hw ⊢
  split
  · next h1 => rw [if_pos h1] at he; cases he
  next h1 =>
  rw [if_neg h1] at he hw
  split
  · next h2 => rw [if_pos h2] at he; cases he
  next h2 =>
  rw [if_neg h2] at he hw
  split
  · next h3 => rw [if_pos h3] at he; exact absurd he h3
  next h3 =>
  rw [if_neg h3] at he hw
  split
  · next h4 =>
    rw [if_pos h4] at he hw
    simp only at he hw ⊢
    split
    · next h5 => rw [if_pos h5] at he; exact absurd he h5
    next h5 =>
    left
    obtain ⟨k, hk⟩ : ∃ k, k = (frees q.chs l 0).getD (drawn draw (frees q.chs l 0).length) 0 := ⟨_, rfl⟩
    rw [← hk] at h5 ⊢
    have hmem : k ∈ frees q.chs l 0 := by
      rw [hk, List.getD_eq_getElem?_getD, List.getElem?_eq_getElem (drawn_lt draw h4)]
      exact List.getElem_mem _
    obtain ⟨_, x, hx, hfr⟩ := mem_frees hmem
    rw [Nat.sub_zero] at hx
    have hgd : l.getD k ⟨0, 0, 0⟩ = x := by rw [List.getD_eq_getElem?_getD, hx]; rfl
    rw [hgd] at h5 ⊢
    have hxo := hgood l q.chs.length 0 (-1) (by omega) x (List.mem_of_getElem? hx)
    have h40 : x.what ≠ 40 := fun e => by unfold isFree at hfr; rw [decide_eq_false (by simpa using e)] at hfr; cases hfr
    rcases hxo with e | ⟨e1, e2⟩
    · exact absurd e h40
    obtain ⟨i, c, hi, hc, _, _⟩ := isFree_chan hfr e2
    refine ⟨x, i, c, ?_, e1, hi, hc, ?_⟩
    · show l[((k : Nat) : Int).toNat]? = some x
      exact hx
    · have h9 := doT_did ok hi hc (by omega)
      cases h9 with
      | send a b c => exact .send a b c
      | give a b c => exact .give a b c
      | take a b c d => exact .take a b c d
      | turn a b c d => exact .turn a b c d
      | hand a b c d => exact .hand a b c d
      | none a b c d => exact .none a b c d
  · next h4 =>
    rw [if_neg h4] at he hw
    split
    · next h5 =>
      right
      rcases hother l _ 0 (-1) (by omega) h5 with h6 | ⟨j, h6, x, h7, h8⟩
      · omega
      · refine ⟨x, ?_, h8, rfl, rfl⟩
        show l[((other q.chs.length l 0 (-1)).1).toNat]? = some x
        rw [h6, Nat.zero_add]
        exact h7
    · next h5 => rw [if_neg h5] at hw; cases hw
theorem numsN_talk_wait {q : St} (t : Int) (l : List Tk) (draw : Int) (_he : (Pp.talk q t l draw).err = 0) (hw : (Pp.talk q t l draw).waits = true) (k : Nat) : numsN (Pp.talk q t l draw).st k = numsN q k := by
  unfold Pp.talk at hw ⊢
  split
  · rfl
  next h1 =>
  rw [if_neg h1] at hw
  split
  · rfl
  next h2 =>
  rw [if_neg h2] at hw
  split
  · rfl
  next h3 =>
  rw [if_neg h3] at hw
  split
  · next h4 =>
    rw [if_pos h4] at hw
    simp only at hw
    split at hw <;> cases hw
  · next h4 =>
    rw [if_neg h4] at hw
    split
    · rfl
    · next h5 => exact numsN_wait t (other_good (m := q.chs.length) (k := 0) (o := -1) (by omega) (by omega) (by decide)) k
theorem BI.tellTalk {x : Tk} {i : Nat} {c : Ch} {g : Got} (h : BI s) (hx : x.chan = (i : Int) + 1) (hwx : x.what = 3 ∨ x.what = 10) (hc : s.pipes.chs[i]? = some c) (hd : Did s.pipes x g i) (hl : g.st.chs.length = s.pipes.chs.length) (t : Nat) : BI (tellTalk { s with pipes := g.st } t x (had s x.chan) g.wakes) := by
  have hi := (List.getElem?_eq_some_iff.1 hc).1
  have hh : had s x.chan = c.nums.length := by
    unfold had chan
    rw [if_neg (by omega), show (x.chan - 1).toNat = i by omega, hc]; rfl
  have hq : numsN s.pipes i = (c.nums.length : Nat) := numsN_get hc
  have h' : EvI s.pipes.chs.length (numsN s.pipes) s.events := h
  unfold Rm.tellTalk
  rw [if_neg (by omega)]
  have hnn := h'.nonneg hi
  cases hd with
  | send e w n =>
    rw [if_pos (by omega), w]
    show EvI g.st.chs.length (numsN g.st) (s.events ++ [⟨t, 2, x.chan⟩])
    rw [hl, hx]
    exact h'.send hi _ n
  | give e w n =>
    obtain ⟨y, w⟩ := w
    rw [if_pos (by omega), w]
    show EvI g.st.chs.length (numsN g.st) ((s.events ++ [⟨t, 2, x.chan⟩]) ++ [⟨y.task, 3, x.chan⟩])
    rw [hl, hx]
    refine (h'.send (g := fun k => numsN s.pipes k + if k = i then 1 else 0) hi _ fun k => rfl).recv hi _ ?_ fun k => ?_
    · show 1 ≤ numsN s.pipes i + if i = i then 1 else 0
      rw [if_pos rfl]; omega
    · rw [n k]; omega
  | take e h0 w n =>
    rw [if_neg (by omega), if_pos (by omega), w]
    show EvI g.st.chs.length (numsN g.st) (s.events ++ [⟨t, 3, x.chan⟩])
    rw [hl, hx]
    exact h'.recv hi _ (by omega) n
  | turn e h0 w n =>
    obtain ⟨y, w⟩ := w
    rw [if_neg (by omega), if_pos (by omega), w]
    show EvI g.st.chs.length (numsN g.st) ((s.events ++ [⟨t, 3, x.chan⟩]) ++ [⟨y.task, 2, x.chan⟩])
    rw [hl, hx]
    refine (h'.recv (g := fun k => numsN s.pipes k - if k = i then 1 else 0) hi _ (by omega) fun k => rfl).send hi _ fun k => ?_
    rw [n k]; omega
  | hand e h0 w n =>
    obtain ⟨y, w⟩ := w
    rw [if_neg (by omega), if_neg (by omega), w, if_pos (by simp)]
    show EvI g.st.chs.length (numsN g.st) ((s.events ++ [⟨y.task, 2, x.chan⟩]) ++ [⟨t, 3, x.chan⟩])
    rw [hl, hx]
    refine (h'.send (g := fun k => numsN s.pipes k + if k = i then 1 else 0) hi _ fun k => rfl).recv hi _ ?_ fun k => ?_
    · show 1 ≤ numsN s.pipes i + if i = i then 1 else 0
      rw [if_pos rfl]; omega
    · rw [n k]; omega
  | none e h0 w n =>
    rw [if_neg (by omega), if_neg (by omega), w, if_neg (by simp)]
    show EvI g.st.chs.length (numsN g.st) (s.events ++ [⟨t, 7, x.chan⟩])
    rw [hl]
    exact (h'.congr fun k _ => n k).other _ (by show (7 : Int) ≠ 2; decide) (by show (7 : Int) ≠ 3; decide)
theorem BI.talkA (h : BI s) (hi : Inv [] s) {t : Nat} (l : List Tk) (draw : Int) : BI (talkA D s t l draw) := by
  unfold Rm.talkA
  simp only
  split
  · next e => rw [(talk_err _ _ _ e).1]; exact h
  next e =>
  split
  · next e2 => exact h.of rfl (talk_chs _ _ _ _) (numsN_talk_wait _ _ _ (by omega) e2)
  next e2 =>
  have key : BI (Rm.tellTalk { s with pipes := (Pp.talk s.pipes t l draw).st } t (l.getD (Pp.talk s.pipes t l draw).case.toNat ⟨0, 0, 0⟩) (had s (l.getD (Pp.talk s.pipes t l draw).case.toNat ⟨0, 0, 0⟩).chan) (Pp.talk s.pipes t l draw).wakes) := by
    rcases talk_done hi.ok (t : Int) l draw (by omega) (by simpa using e2) with ⟨x, i, c, h1, h2, h3, h4, h5⟩ | ⟨x, h1, h2, h3, h4⟩
    · rw [List.getD_eq_getElem?_getD, h1]
      exact BI.tellTalk (g := ⟨(Pp.talk s.pipes t l draw).st, (Pp.talk s.pipes t l draw).n, (Pp.talk s.pipes t l draw).wakes, 0⟩) h h3 h2 h4 h5 (talk_chs _ _ _ _) t
    · rw [List.getD_eq_getElem?_getD, h1, h3]
      show BI (Rm.tellTalk s t x (had s x.chan) _)
      unfold Rm.tellTalk
      rw [if_pos h2]
      exact h
  have h4 := resumeEach_alike (D := D) (Pp.talk s.pipes t l draw).wakes (Rm.give D (Rm.tellTalk { s with pipes := (Pp.talk s.pipes t l draw).st } t (l.getD (Pp.talk s.pipes t l draw).case.toNat ⟨0, 0, 0⟩) (had s (l.getD (Pp.talk s.pipes t l draw).case.toNat ⟨0, 0, 0⟩).chan) (Pp.talk s.pipes t l draw).wakes) t (Pp.talk s.pipes t l draw).case (Pp.talk s.pipes t l draw).n)
  exact BI.of key h4.events (by rw [h4.pipes]; rfl) fun k => by rw [h4.pipes]; rfl
theorem BI.tellEach {c : Int} : ∀ (l : List Wk) {s : S α}, BI s → BI (tellEach s 7 c l)
  | [], _, h => h
  | w :: l, s, h => BI.tellEach l (s := Rm.tell s w.task 7 c) (EvI.other h _ (by show (7 : Int) ≠ 2; decide) (by show (7 : Int) ≠ 3; decide))
theorem BI.shutA (h : BI s) (hi : Inv [] s) (t : Nat) (c : Int) : BI (shutA D s t c) := by
  have hp : BI { s with pipes := (Pp.close s.pipes c).st } := h.of rfl (close_chs _ _) (numsN_close hi.ok c)
  unfold Rm.shutA
  simp only
  split
  · exact hp
  split
  · exact hp
  · have h4 : BI (Rm.tell { s with pipes := (Pp.close s.pipes c).st } t 6 c) := EvI.other hp _ (by show (6 : Int) ≠ 2; decide) (by show (6 : Int) ≠ 3; decide)
    have h5 := BI.tellEach (c := c) (Pp.close s.pipes c).wakes h4
    have h6 := resumeEach_alike (D := D) (Pp.close s.pipes c).wakes (Rm.give D (Rm.tellEach (Rm.tell { s with pipes := (Pp.close s.pipes c).st } t 6 c) 7 c (Pp.close s.pipes c).wakes) t 0 0)
    exact BI.of h5 h6.events (by rw [h6.pipes]; rfl) fun k => by rw [h6.pipes]; rfl
theorem BI.numberA (h : BI s) (t : Nat) (a : Ask) : BI (numberA s t a).1 := by
  unfold Rm.numberA
  split
  · exact h
  split
  · split
    · exact h
    split
    · exact h
    · show EvI (s.pipes.chs ++ [newCh a.n.toNat]).length (numsN ⟨s.pipes.chs ++ [newCh a.n.toNat], s.pipes.asks⟩) s.events
      rw [List.length_append, List.length_singleton]
      have h' : EvI s.pipes.chs.length (numsN s.pipes) s.events := h
      refine EvI.more (h'.congr fun k hk => ?_) ?_
      · unfold numsN
        simp only
        rw [List.getElem?_append_left hk]
      · unfold numsN
        simp [newCh]
  split
  · split <;> exact h
  split
  · split
    · exact EvI.other (l := s.events) h _ (by show (4 : Int) ≠ 2; decide) (by show (4 : Int) ≠ 3; decide)
    · exact h
  split
  · split
    · exact EvI.other (l := s.events) h _ (by show (5 : Int) ≠ 2; decide) (by show (5 : Int) ≠ 3; decide)
    · exact h
  · exact h
theorem BI.doA (h : BI s) (hi : Inv [] s) (t : Nat) (a : Ask) (draw : Int) : BI (doA D s t a draw) := by
  unfold Rm.doA
  split
  · unfold Rm.endA
    simp only
    split <;> exact h
  split
  · exact h
  split
  · exact h
  split
  · unfold Rm.forkA
    split
    · exact h
    · exact EvI.other (l := s.events) h _ (by show (1 : Int) ≠ 2; decide) (by show (1 : Int) ≠ 3; decide)
  split
  · exact h.talkA hi _ _
  split
  · exact h.shutA hi _ _
  split
  · unfold Rm.sleepA
    split <;> exact h
  · simp only
    split
    · exact h.numberA _ _
    · exact h.numberA _ _
theorem BI.play (l : List (Int × Int)) (hi : Inv [] s) (h : BI s) : BI (play D s l).1 :=
  play_keeps (fun _ who draw hi h => turn_keeps (fun _ _ h => h) (fun _ h => h) (fun s _ h => BI.of h (wake_alike s).events (by rw [(wake_alike s).pipes]) fun k => by rw [(wake_alike s).pipes]) (fun _ t a draw h hi _ => h.doA hi t a draw) hi h who draw) l hi h
theorem BI.start (g : Nat) (d : α) : BI (start D g d) := ⟨fun i c => by show 0 ≤ bal c (List.take i []); rw [List.take_nil]; exact Int.le_refl _, fun e he => absurd he List.not_mem_nil, fun k hk => absurd hk (Nat.not_lt_zero k)⟩
end
end Rm
end Go.Proofs.YtnjdmijcoadidaaGreatDoor
