/-
  Plain mathematics: channels, and tasks that wait at them. No program.
-/
namespace Go.Proofs.YtpehmghnfbkaaaaDoor
namespace Pp

structure Tk where
  what : Int
  chan : Int
  n : Int
structure Ch where
  size : Nat
  nums : List Int
  shut : Bool
  sends : List (Int × Nat)
  recvs : List (Int × Nat)
structure St where
  chs : List Ch
  asks : Int → Option (List Tk)
/-- A task that goes on: which one, at which case, with what. -/
structure Wk where
  task : Int
  case : Nat
  n : Int

def zero : St := ⟨[], fun _ => none⟩
def newCh (n : Nat) : Ch := ⟨n, [], false, [], []⟩
def Ch.free (c : Ch) (what : Int) : Bool := c.shut || (if what = 3 then (decide (0 < c.recvs.length) || decide (c.nums.length < c.size)) else (decide (0 < c.nums.length) || decide (0 < c.sends.length)))
def may (m : Nat) (c : Int) : Bool := decide (0 ≤ c) && decide (c ≤ (m : Int))
/-- The channel of a number. -/
def chan (chs : List Ch) (c : Int) : Option Ch := if c = 0 then none else chs[(c - 1).toNat]?
/-- Which one is an Else, and what is wrong first. -/
def other (m : Nat) : List Tk → Nat → Int → Int × Int
  | [], _, o => (o, 0)
  | t :: l, k, o =>
    if t.what = 40 then (if 0 ≤ o then (-1, 9) else other m l (k + 1) (k : Int))
    else if t.what ≠ 3 ∧ t.what ≠ 10 then (-1, 1)
    else if may m t.chan = false then (-1, 2) else other m l (k + 1) o
def isFree (chs : List Ch) (t : Tk) : Bool := decide (t.what ≠ 40) && (match chan chs t.chan with | none => false | some c => c.free t.what)
def frees (chs : List Ch) : List Tk → Nat → List Nat
  | [], _ => []
  | t :: l, k => if isFree chs t then k :: frees chs l (k + 1) else frees chs l (k + 1)
def drawn (draw : Int) (many : Nat) : Nat := (draw % (many : Int)).toNat
def off (task : Int) (r : List (Int × Nat)) : List (Int × Nat) := r.filter fun w => decide (w.1 ≠ task)
def Ch.strike (task what : Int) (c : Ch) : Ch := if what = 3 then { c with sends := off task c.sends } else { c with recvs := off task c.recvs }
def strikeAt (task : Int) (chs : List Ch) (t : Tk) : List Ch := if t.chan = 0 then chs else chs.modify (t.chan - 1).toNat (Ch.strike task t.what)
def strike (task : Int) (l : List Tk) (chs : List Ch) : List Ch := l.foldl (strikeAt task) chs
def wake (s : St) (task : Int) : St := ⟨strike task ((s.asks task).getD []) s.chs, fun x => if x = task then none else s.asks x⟩
def setNums (s : St) (k : Nat) (nums : List Int) : St := ⟨s.chs.modify k fun c => { c with nums := nums }, s.asks⟩
/-- What comes of a send, and of a receive, at the channel in the k-th place. -/
structure Got where
  st : St
  n : Int
  wakes : List Wk
  err : Int
def send (s : St) (k : Nat) (c : Ch) (n : Int) : Got :=
  if c.shut then ⟨s, 0, [], 13⟩
  else match c.recvs with
    | w :: _ => ⟨wake s w.1, 0, [⟨w.1, w.2, n⟩], 0⟩
    | [] => if c.nums.length = c.size then ⟨s, 0, [], 12⟩ else ⟨setNums s k (c.nums ++ [n]), 0, [], 0⟩
def sent (s : St) (w : Int × Nat) : Int := ((((s.asks w.1).getD [])[w.2]?).map Tk.n).getD 0
def recv (s : St) (k : Nat) (c : Ch) : Got :=
  match c.nums, c.sends with
  | [], [] => ⟨s, 0, [], 0⟩
  | [], w :: _ => ⟨wake s w.1, sent s w, [⟨w.1, w.2, 0⟩], 0⟩
  | x :: r, [] => ⟨setNums s k r, x, [], 0⟩
  | x :: r, w :: _ => ⟨setNums (wake (setNums s k r) w.1) k (r ++ [sent s w]), x, [⟨w.1, w.2, 0⟩], 0⟩
def doT (s : St) (t : Tk) : Got :=
  match s.chs[(t.chan - 1).toNat]? with
  | none => ⟨s, 0, [], 0⟩
  | some c => if t.what = 10 then recv s (t.chan - 1).toNat c else send s (t.chan - 1).toNat c t.n
def Ch.lay (task what : Int) (k : Nat) (c : Ch) : Ch := if what = 3 then { c with sends := c.sends ++ [(task, k)] } else { c with recvs := c.recvs ++ [(task, k)] }
def layAt (task : Int) (chs : List Ch) (t : Tk) (k : Nat) : List Ch := if t.chan = 0 then chs else chs.modify (t.chan - 1).toNat (Ch.lay task t.what k)
def lay (task : Int) : List Ch → List Tk → Nat → List Ch
  | chs, [], _ => chs
  | chs, t :: l, k => lay task (layAt task chs t k) l (k + 1)
def wait (s : St) (task : Int) (l : List Tk) : St := ⟨lay task s.chs l 0, fun x => if x = task then some l else s.asks x⟩
/-- What comes of a talk. -/
structure Told where
  st : St
  case : Int
  n : Int
  wakes : List Wk
  waits : Bool
  err : Int
def talk (s : St) (task : Int) (l : List Tk) (draw : Int) : Told :=
  if (s.asks task).isSome then ⟨s, 0, 0, [], false, 6⟩
  else if 6 < l.length then ⟨s, 0, 0, [], false, 4⟩
  else if (other s.chs.length l 0 (-1)).2 ≠ 0 then ⟨s, 0, 0, [], false, (other s.chs.length l 0 (-1)).2⟩
  else if 0 < (frees s.chs l 0).length then
    let k := (frees s.chs l 0).getD (drawn draw (frees s.chs l 0).length) 0
    let g := doT s (l.getD k ⟨0, 0, 0⟩)
    if g.err ≠ 0 then ⟨g.st, 0, 0, [], false, g.err⟩ else ⟨g.st, (k : Nat), g.n, g.wakes, false, 0⟩
  else if 0 ≤ (other s.chs.length l 0 (-1)).1 then ⟨s, (other s.chs.length l 0 (-1)).1, 0, [], false, 0⟩
  else ⟨wait s task l, 0, 0, [], true, 0⟩
/-- Those of a row that go on, each once. -/
def wakeAll : St → List (Int × Nat) → St × List Wk
  | s, [] => (s, [])
  | s, w :: r => if (s.asks w.1).isSome then ((wakeAll (wake s w.1) r).1, ⟨w.1, w.2, 0⟩ :: (wakeAll (wake s w.1) r).2) else wakeAll s r
def close (s : St) (c : Int) : Got :=
  if may s.chs.length c = false then ⟨s, 0, [], 2⟩
  else match chan s.chs c with
    | none => ⟨s, 0, [], 1⟩
    | some x => if x.shut then ⟨s, 0, [], 1⟩ else if 0 < x.sends.length then ⟨s, 0, [], 13⟩
      else
        let r := wakeAll ⟨s.chs.modify (c - 1).toNat fun c => { c with shut := true, recvs := [] }, s.asks⟩ x.recvs
        ⟨r.1, 0, r.2, 0⟩

/-- What holds of all that waits. -/
structure Ok (s : St) : Prop where
  talks : ∀ t l, s.asks t = some l → l.length ≤ 6 ∧ ∀ x ∈ l, (0 ≤ x.chan ∧ x.chan ≤ s.chs.length) ∧ (x.what = 3 ∨ x.what = 10)
  sends : ∀ (k : Nat) c, s.chs[k]? = some c → ∀ w ∈ c.sends, ∃ l x, s.asks w.1 = some l ∧ l[w.2]? = some x ∧ x.what = 3 ∧ x.chan = (k : Int) + 1
  recvs : ∀ (k : Nat) c, s.chs[k]? = some c → ∀ w ∈ c.recvs, ∃ l x, s.asks w.1 = some l ∧ l[w.2]? = some x ∧ x.what = 10 ∧ x.chan = (k : Int) + 1
  caps : ∀ (k : Nat) c, s.chs[k]? = some c → c.size ≤ 8 ∧ c.nums.length ≤ c.size
  many : s.chs.length ≤ 32
theorem Ok.zero : Ok zero := ⟨fun _ _ h => (by cases h), fun _ _ h => (by cases h), fun _ _ h => (by cases h), fun _ _ h => (by cases h), Nat.zero_le _⟩

theorem strikeAt_len (task : Int) (chs : List Ch) (t : Tk) : (strikeAt task chs t).length = chs.length := by unfold strikeAt; split <;> simp
theorem strike_len (task : Int) (l : List Tk) (chs : List Ch) : (strike task l chs).length = chs.length := by
  unfold strike
  induction l generalizing chs with
  | nil => rfl
  | cons t l ih => rw [List.foldl_cons, ih, strikeAt_len]
/-- What a channel keeps of its rows. -/
structure Less (task : Int) (l : List Tk) (k : Nat) (c c' : Ch) : Prop where
  size : c'.size = c.size
  nums : c'.nums = c.nums
  shut : c'.shut = c.shut
  sends : c'.sends = c.sends ∨ c'.sends = off task c.sends
  recvs : c'.recvs = c.recvs ∨ c'.recvs = off task c.recvs
  sends' : (∃ x ∈ l, x.what = 3 ∧ x.chan = (k : Int) + 1) → c'.sends = off task c.sends
  recvs' : (∃ x ∈ l, x.what ≠ 3 ∧ x.chan = (k : Int) + 1) → c'.recvs = off task c.recvs
theorem off_off (task : Int) (r : List (Int × Nat)) : off task (off task r) = off task r := by simp [off, List.filter_filter]
theorem mem_off {task : Int} {r : List (Int × Nat)} {w : Int × Nat} : w ∈ off task r ↔ w ∈ r ∧ w.1 ≠ task := by simp [off]
theorem strikeAt_get {task : Int} {chs : List Ch} {t : Tk} {k : Nat} {c : Ch} (h : chs[k]? = some c) (ht : 0 ≤ t.chan) :
    (strikeAt task chs t)[k]? = some (if t.chan = (k : Int) + 1 then c.strike task t.what else c) := by
  unfold strikeAt
  by_cases h0 : t.chan = 0
  · rw [if_pos h0, if_neg (by omega)]; exact h
  · rw [if_neg h0, List.getElem?_modify, h]
    by_cases e : t.chan = (k : Int) + 1
    · rw [if_pos e]
      have : (t.chan - 1).toNat = k := by omega
      simp [this]
    · rw [if_neg e]
      simp
      intro e2
      exact absurd e2 (by omega)
theorem strike_get {task : Int} {l : List Tk} (hl : ∀ x ∈ l, 0 ≤ x.chan) {chs : List Ch} {k : Nat} {c : Ch} (h : chs[k]? = some c) : ∃ c', (strike task l chs)[k]? = some c' ∧ Less task l k c c' := by
  unfold strike
  induction l generalizing chs c with
  | nil => exact ⟨c, h, rfl, rfl, rfl, Or.inl rfl, Or.inl rfl, fun ⟨_, h, _⟩ => (by cases h), fun ⟨_, h, _⟩ => (by cases h)⟩
  | cons t l ih =>
    rw [List.foldl_cons]
    obtain ⟨c', h1, h2⟩ := ih (fun x hx => hl x (List.mem_cons_of_mem _ hx)) (strikeAt_get h (hl t List.mem_cons_self))
    refine ⟨c', h1, ?_⟩
    by_cases e : t.chan = (k : Int) + 1
    · rw [if_pos e] at h2
      unfold Ch.strike at h2
      by_cases e3 : t.what = 3
      · rw [if_pos e3] at h2
        have hs : c'.sends = off task c.sends := by
          rcases h2.sends with h3 | h3
          · exact h3
          · rw [h3]; exact off_off _ _
        exact ⟨h2.size, h2.nums, h2.shut, Or.inr hs, h2.recvs, fun _ => hs, fun ⟨x, hx, h5, h6⟩ => by
          rcases List.mem_cons.1 hx with rfl | hx
          · exact absurd e3 h5
          · exact h2.recvs' ⟨x, hx, h5, h6⟩⟩
      · rw [if_neg e3] at h2
        have hs : c'.recvs = off task c.recvs := by
          rcases h2.recvs with h3 | h3
          · exact h3
          · rw [h3]; exact off_off _ _
        exact ⟨h2.size, h2.nums, h2.shut, h2.sends, Or.inr hs, fun ⟨x, hx, h5, h6⟩ => by
          rcases List.mem_cons.1 hx with rfl | hx
          · exact absurd h5 e3
          · exact h2.sends' ⟨x, hx, h5, h6⟩, fun _ => hs⟩
    · rw [if_neg e] at h2
      exact ⟨h2.size, h2.nums, h2.shut, h2.sends, h2.recvs, fun ⟨x, hx, h5, h6⟩ => by
          rcases List.mem_cons.1 hx with rfl | hx
          · exact absurd h6 e
          · exact h2.sends' ⟨x, hx, h5, h6⟩, fun ⟨x, hx, h5, h6⟩ => by
          rcases List.mem_cons.1 hx with rfl | hx
          · exact absurd h6 e
          · exact h2.recvs' ⟨x, hx, h5, h6⟩⟩
theorem get_strike {task : Int} {l : List Tk} (hl : ∀ x ∈ l, 0 ≤ x.chan) {chs : List Ch} {k : Nat} {c' : Ch} (h : (strike task l chs)[k]? = some c') : ∃ c, chs[k]? = some c ∧ Less task l k c c' := by
  have hk : k < chs.length := by rw [← strike_len task l chs]; exact (List.getElem?_eq_some_iff.1 h).1
  obtain ⟨c2, h1, h2⟩ := strike_get (task := task) hl (List.getElem?_eq_getElem hk)
  rw [h] at h1
  cases h1
  exact ⟨_, List.getElem?_eq_getElem hk, h2⟩
theorem Ok.le {s : St} (h : Ok s) {task : Int} {l : List Tk} (hl : s.asks task = some l) : ∀ x ∈ l, 0 ≤ x.chan := fun x hx => ((h.talks _ _ hl).2 x hx).1.1
theorem wake_some {s : St} {task : Int} {l : List Tk} (hl : s.asks task = some l) : wake s task = ⟨strike task l s.chs, fun x => if x = task then none else s.asks x⟩ := by unfold wake; rw [hl]; rfl
theorem Ok.wake {s : St} (h : Ok s) {task : Int} {l : List Tk} (hl : s.asks task = some l) : Ok (wake s task) := by
  rw [wake_some hl]
  have hlen := strike_len task l s.chs
  refine ⟨fun t m hm => ?_, fun k c hc w hw => ?_, fun k c hc w hw => ?_, fun k c hc => ?_, by rw [hlen]; exact h.many⟩
  · simp only at hm
    split at hm
    · cases hm
    · rw [hlen]; exact h.talks t m hm
  · obtain ⟨c0, h0, h1⟩ := get_strike (h.le hl) hc
    have hw0 : w ∈ c0.sends := by rcases h1.sends with e | e <;> rw [e] at hw; exact hw; exact (mem_off.1 hw).1
    obtain ⟨m, x, h2, h3, h4, h5⟩ := h.sends k c0 h0 w hw0
    have hne : w.1 ≠ task := fun e => by
      rw [e, hl] at h2
      cases h2
      rw [h1.sends' ⟨x, List.mem_of_getElem? h3, h4, h5⟩] at hw
      exact (mem_off.1 hw).2 e
    exact ⟨m, x, by simp only; rw [if_neg hne]; exact h2, h3, h4, h5⟩
  · obtain ⟨c0, h0, h1⟩ := get_strike (h.le hl) hc
    have hw0 : w ∈ c0.recvs := by rcases h1.recvs with e | e <;> rw [e] at hw; exact hw; exact (mem_off.1 hw).1
    obtain ⟨m, x, h2, h3, h4, h5⟩ := h.recvs k c0 h0 w hw0
    have hne : w.1 ≠ task := fun e => by
      rw [e, hl] at h2
      cases h2
      rw [h1.recvs' ⟨x, List.mem_of_getElem? h3, by rw [h4]; decide, h5⟩] at hw
      exact (mem_off.1 hw).2 e
    exact ⟨m, x, by simp only; rw [if_neg hne]; exact h2, h3, h4, h5⟩
  · obtain ⟨c0, h0, h1⟩ := get_strike (h.le hl) hc
    rw [h1.size, h1.nums]; exact h.caps k c0 h0
/-- Other numbers, or shut: what waits is what waited. -/
theorem Ok.modify {s : St} (h : Ok s) (j : Nat) (f : Ch → Ch) (hs : ∀ c w, w ∈ (f c).sends → w ∈ c.sends) (hr : ∀ c w, w ∈ (f c).recvs → w ∈ c.recvs) (hc : ∀ c, s.chs[j]? = some c → (f c).size = c.size ∧ (f c).nums.length ≤ c.size) : Ok ⟨s.chs.modify j f, s.asks⟩ := by
  have key : ∀ (k : Nat) c, (s.chs.modify j f)[k]? = some c → ∃ c0, s.chs[k]? = some c0 ∧ (c = c0 ∨ (k = j ∧ c = f c0)) := fun k c hk => by
    rw [List.getElem?_modify] at hk
    obtain ⟨c0, h1, h2⟩ := Option.map_eq_some_iff.1 hk
    by_cases e : j = k
    · simp [e] at h2
      exact ⟨c0, h1, Or.inr ⟨e.symm, h2.symm⟩⟩
    · simp [e] at h2
      exact ⟨c0, h1, Or.inl h2.symm⟩
  refine ⟨fun t m hm => ?_, fun k c hk w hw => ?_, fun k c hk w hw => ?_, fun k c hk => ?_, ?_⟩
  · simp only [List.length_modify]; exact h.talks t m hm
  · obtain ⟨c0, h1, h2⟩ := key k c hk
    refine h.sends k c0 h1 w ?_
    rcases h2 with rfl | ⟨_, rfl⟩
    · exact hw
    · exact hs _ _ hw
  · obtain ⟨c0, h1, h2⟩ := key k c hk
    refine h.recvs k c0 h1 w ?_
    rcases h2 with rfl | ⟨_, rfl⟩
    · exact hw
    · exact hr _ _ hw
  · obtain ⟨c0, h1, h2⟩ := key k c hk
    rcases h2 with rfl | ⟨rfl, rfl⟩
    · exact h.caps _ _ h1
    · obtain ⟨h3, h4⟩ := hc c0 h1
      rw [h3]; exact ⟨(h.caps _ _ h1).1, h4⟩
  · simp only [List.length_modify]; exact h.many
theorem Ok.nums {s : St} (h : Ok s) (j : Nat) (nums : List Int) (hc : ∀ c, s.chs[j]? = some c → nums.length ≤ c.size) : Ok (setNums s j nums) := h.modify j _ (fun _ _ h => h) (fun _ _ h => h) fun c hk => ⟨rfl, hc c hk⟩
/-- One more channel. -/
theorem Ok.make {s : St} (h : Ok s) {n : Nat} (hn : n ≤ 8) (hm : s.chs.length < 32) : Ok ⟨s.chs ++ [newCh n], s.asks⟩ := by
  have key : ∀ (k : Nat) c, (s.chs ++ [newCh n])[k]? = some c → s.chs[k]? = some c ∨ c = newCh n := fun k c hk => by
    rw [List.getElem?_append] at hk
    split at hk
    · exact Or.inl hk
    · rcases hj : k - s.chs.length with _ | j
      · rw [hj] at hk; cases hk; exact Or.inr rfl
      · rw [hj] at hk; simp at hk
  refine ⟨fun t m hm => ?_, fun k c hk w hw => ?_, fun k c hk w hw => ?_, fun k c hk => ?_, by simp; omega⟩
  · refine ⟨(h.talks t m hm).1, fun x hx => ⟨⟨((h.talks t m hm).2 x hx).1.1, ?_⟩, ((h.talks t m hm).2 x hx).2⟩⟩
    have := ((h.talks t m hm).2 x hx).1.2
    simp; omega
  · rcases key k c hk with h1 | rfl
    · exact h.sends k c h1 w hw
    · cases hw
  · rcases key k c hk with h1 | rfl
    · exact h.recvs k c h1 w hw
    · cases hw
  · rcases key k c hk with h1 | rfl
    · exact h.caps k c h1
    · exact ⟨hn, Nat.zero_le _⟩
end Pp
end Go.Proofs.YtpehmghnfbkaaaaDoor
