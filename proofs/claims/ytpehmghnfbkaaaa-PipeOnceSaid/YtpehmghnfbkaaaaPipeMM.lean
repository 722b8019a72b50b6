/-
  Plain mathematics: where nothing is shut, no two tasks wait that could meet. No program.
-/
import Derived.Test.YtpehmghnfbkaaaaPipeM3
namespace Go.Proofs.Ytpehmghnfbkaaaa
namespace Pp

structure Meet (s : St) : Prop where
  shut : ∀ (k : Nat) c, s.chs[k]? = some c → c.shut = false
  two : ∀ (k : Nat) c, s.chs[k]? = some c → ∀ a ∈ c.sends, ∀ b ∈ c.recvs, a.1 = b.1
  none : ∀ (k : Nat) c, s.chs[k]? = some c → c.recvs ≠ [] → c.nums = []
theorem Meet.zero : Meet zero := ⟨fun _ _ h => (by cases h), fun _ _ h => (by cases h), fun _ _ h => (by cases h)⟩
theorem Meet.make {s : St} (h : Meet s) (n : Nat) : Meet ⟨s.chs ++ [newCh n], s.asks⟩ := by
  have key : ∀ (k : Nat) c, (s.chs ++ [newCh n])[k]? = some c → s.chs[k]? = some c ∨ c = newCh n := fun k c hk => by
    rcases Nat.lt_or_ge k s.chs.length with h1 | h1
    · rw [List.getElem?_append_left h1] at hk
      exact Or.inl hk
    · rw [List.getElem?_append_right h1] at hk
      exact Or.inr (List.mem_singleton.1 (List.mem_of_getElem? hk))
  refine ⟨fun k c hk => ?_, fun k c hk a ha b hb => ?_, fun k c hk hr => ?_⟩
  · rcases key k c hk with h1 | rfl
    · exact h.shut k c h1
    · rfl
  · rcases key k c hk with h1 | rfl
    · exact h.two k c h1 a ha b hb
    · cases ha
  · rcases key k c hk with h1 | rfl
    · exact h.none k c h1 hr
    · rfl
theorem less_sends {task : Int} {l : List Tk} {k : Nat} {c c' : Ch} (h : Less task l k c c') {w : Int × Nat} (hw : w ∈ c'.sends) : w ∈ c.sends := by
  rcases h.sends with e | e <;> rw [e] at hw
  · exact hw
  · exact (mem_off.1 hw).1
theorem less_recvs {task : Int} {l : List Tk} {k : Nat} {c c' : Ch} (h : Less task l k c c') {w : Int × Nat} (hw : w ∈ c'.recvs) : w ∈ c.recvs := by
  rcases h.recvs with e | e <;> rw [e] at hw
  · exact hw
  · exact (mem_off.1 hw).1
theorem Meet.wake {s : St} (h : Meet s) (ok : Ok s) {task : Int} {l : List Tk} (hl : s.asks task = some l) : Meet (wake s task) := by
  rw [wake_some hl]
  refine ⟨fun k c hk => ?_, fun k c hk a ha b hb => ?_, fun k c hk hr => ?_⟩
  · obtain ⟨c0, h0, h1⟩ := get_strike (ok.le hl) hk
    rw [h1.shut]; exact h.shut k c0 h0
  · obtain ⟨c0, h0, h1⟩ := get_strike (ok.le hl) hk
    exact h.two k c0 h0 a (less_sends h1 ha) b (less_recvs h1 hb)
  · obtain ⟨c0, h0, h1⟩ := get_strike (ok.le hl) hk
    rw [h1.nums]
    refine h.none k c0 h0 fun e => hr (List.eq_nil_iff_forall_not_mem.2 fun b hb => ?_)
    have := less_recvs h1 hb
    rw [e] at this
    cases this
theorem Meet.nums {s : St} (h : Meet s) (j : Nat) (l : List Int) (hj : ∀ c, s.chs[j]? = some c → c.recvs = []) : Meet (setNums s j l) := by
  have key : ∀ (k : Nat) c, (setNums s j l).chs[k]? = some c → ∃ c0, s.chs[k]? = some c0 ∧ (c = c0 ∨ (k = j ∧ c = { c0 with nums := l })) := fun k c hk => by
    unfold setNums at hk
    simp only at hk
    rw [List.getElem?_modify] at hk
    obtain ⟨c0, h1, h2⟩ := Option.map_eq_some_iff.1 hk
    by_cases e : j = k
    · simp [e] at h2
      exact ⟨c0, h1, Or.inr ⟨e.symm, h2.symm⟩⟩
    · simp [e] at h2
      exact ⟨c0, h1, Or.inl h2.symm⟩
  refine ⟨fun k c hk => ?_, fun k c hk a ha b hb => ?_, fun k c hk hr => ?_⟩
  · obtain ⟨c0, h0, rfl | ⟨rfl, rfl⟩⟩ := key k c hk
    · exact h.shut k _ h0
    · exact (h.shut k _ h0 :)
  · obtain ⟨c0, h0, rfl | ⟨rfl, rfl⟩⟩ := key k c hk
    · exact h.two k _ h0 a ha b hb
    · exact h.two k _ h0 a ha b hb
  · obtain ⟨c0, h0, rfl | ⟨rfl, rfl⟩⟩ := key k c hk
    · exact h.none k _ h0 hr
    · exact absurd (hj _ h0) hr
theorem Meet.send {s : St} (h : Meet s) (ok : Ok s) {k : Nat} {c : Ch} (hc : s.chs[k]? = some c) (n : Int) : Meet (Pp.send s k c n).st := by
  unfold Pp.send
  split
  · exact h
  · split
    · next w r hr =>
      obtain ⟨l, x, h1, _⟩ := ok.recvs k c hc w (by rw [hr]; exact List.mem_cons_self)
      exact h.wake ok h1
    · next hr =>
      split
      · exact h
      · exact h.nums k _ fun c' hc' => by rw [hc] at hc'; cases hc'; exact hr
theorem Meet.recv {s : St} (h : Meet s) (ok : Ok s) {k : Nat} {c : Ch} (hc : s.chs[k]? = some c) : Meet (Pp.recv s k c).st := by
  have hcap := (ok.caps k c hc).2
  have hnil : c.nums ≠ [] → c.recvs = [] := fun hn => Classical.byContradiction fun e => hn (h.none k c hc e)
  unfold Pp.recv
  split
  · exact h
  · next w r hn hs =>
    obtain ⟨l, x, h1, _⟩ := ok.sends k c hc w (by rw [hs]; exact List.mem_cons_self)
    exact h.wake ok h1
  · next x r hn hs =>
    exact h.nums k _ fun c' hc' => by rw [hc] at hc'; cases hc'; exact hnil (by rw [hn]; simp)
  · next x r w r2 hn hs =>
    obtain ⟨l, y, h1, _⟩ := ok.sends k c hc w (by rw [hs]; exact List.mem_cons_self)
    have hr : c.recvs = [] := hnil (by rw [hn]; simp)
    have ha : Ok (setNums s k r) := ok.nums k _ fun c' hc' => by
      rw [hc] at hc'
      cases hc'
      rw [hn, List.length_cons] at hcap; omega
    have hm : Meet (setNums s k r) := h.nums k _ fun c' hc' => by rw [hc] at hc'; cases hc'; exact hr
    have hb : Meet (Pp.wake (setNums s k r) w.1) := hm.wake ha (l := l) h1
    refine hb.nums k _ fun c' hc' => ?_
    rw [wake_some (s := setNums s k r) (l := l) h1] at hc'
    obtain ⟨c0, h2, h3⟩ := get_strike (ha.le h1) hc'
    unfold setNums at h2
    simp only [List.getElem?_modify, hc] at h2
    simp at h2
    refine List.eq_nil_iff_forall_not_mem.2 fun b hb2 => ?_
    have := less_recvs h3 hb2
    rw [← h2] at this
    simp only [hr] at this
    cases this
theorem Meet.doT {s : St} (h : Meet s) (ok : Ok s) (t : Tk) : Meet (Pp.doT s t).st := by
  unfold Pp.doT
  split
  · exact h
  · next c hc =>
    split
    · exact h.recv ok hc
    · exact h.send ok hc _
theorem frees_nil {chs : List Ch} : ∀ {l : List Tk} {i : Nat}, frees chs l i = [] → ∀ x ∈ l, isFree chs x = false := by
  intro l
  induction l with
  | nil => intro i _ x hx; cases hx
  | cons t l ih =>
    intro i h x hx
    unfold frees at h
    by_cases e : isFree chs t = true
    · rw [if_pos e] at h; cases h
    · rw [if_neg e] at h
      rcases List.mem_cons.1 hx with rfl | hx
      · simpa using e
      · exact ih h x hx
theorem not_free {chs : List Ch} {x : Tk} (h : isFree chs x = false) {k : Nat} {c : Ch} (hc : chs[k]? = some c) (hx : x.chan = (k : Int) + 1) (h40 : x.what ≠ 40) : c.free x.what = false := by
  unfold isFree at h
  have : chan chs x.chan = some c := by
    unfold chan
    rw [if_neg (by omega), hx, show ((k : Int) + 1 - 1).toNat = k by omega, hc]
  rw [this] at h
  simpa [h40] using h
theorem Meet.wait {s : St} (h : Meet s) {task : Int} {l : List Tk} (hl : ∀ x ∈ l, x.good s.chs.length) (hf : ∀ x ∈ l, isFree s.chs x = false) : Meet (wait s task l) := by
  have hsend : ∀ (k : Nat) c, s.chs[k]? = some c → ∀ w ∈ rowT task 3 ((k : Int) + 1) l 0, w.1 = task ∧ c.recvs = [] := fun k c hc w hw => by
    obtain ⟨h2, _, x, h3, h4, h5⟩ := mem_rowT hw
    have hx := List.mem_of_getElem? h3
    have := not_free (hf x hx) hc h5 (by omega)
    rw [h4] at this
    simp [Ch.free] at this
    exact ⟨h2, this.2.1⟩
  have hrecv : ∀ (k : Nat) c, s.chs[k]? = some c → ∀ w ∈ rowT task 10 ((k : Int) + 1) l 0, w.1 = task ∧ c.nums = [] ∧ c.sends = [] := fun k c hc w hw => by
    obtain ⟨h2, _, x, h3, h4, h5⟩ := mem_rowT hw
    have hx := List.mem_of_getElem? h3
    have := not_free (hf x hx) hc h5 (by omega)
    rw [h4] at this
    simp [Ch.free] at this
    exact ⟨h2, this.2.1, this.2.2⟩
  refine ⟨fun k c hk => ?_, fun k c hk a ha b hb => ?_, fun k c hk hr => ?_⟩
  · obtain ⟨c0, h0, rfl⟩ := get_lay hl hk
    exact h.shut k c0 h0
  · obtain ⟨c0, h0, rfl⟩ := get_lay hl hk
    rcases List.mem_append.1 ha with ha | ha <;> rcases List.mem_append.1 hb with hb | hb
    · exact h.two k c0 h0 a ha b hb
    · rw [(hrecv k c0 h0 b hb).2.2] at ha; cases ha
    · rw [(hsend k c0 h0 a ha).2] at hb; cases hb
    · rw [(hsend k c0 h0 a ha).1, (hrecv k c0 h0 b hb).1]
  · obtain ⟨c0, h0, rfl⟩ := get_lay hl hk
    by_cases e : c0.recvs = []
    · obtain ⟨b, hb⟩ := List.exists_mem_of_ne_nil _ hr
      simp only [e, List.nil_append] at hb
      exact (hrecv k c0 h0 b hb).2.1
    · exact h.none k c0 h0 e
theorem Meet.talk {s : St} (h : Meet s) (ok : Ok s) (task : Int) (l : List Tk) (draw : Int) : Meet (Pp.talk s task l draw).st := by
  unfold Pp.talk
  split
  · exact h
  · split
    · exact h
    · split
      · exact h
      · next h3 =>
        split
        · simp only
          split
          · exact h.doT ok _
          · exact h.doT ok _
        · next h4 =>
          split
          · exact h
          · next h5 =>
            exact h.wait (other_good (k := 0) (o := -1) (by omega) (by omega) (by decide)) (frees_nil (i := 0) (List.eq_nil_of_length_eq_zero (by omega)))
end Pp
end Go.Proofs.Ytpehmghnfbkaaaa
