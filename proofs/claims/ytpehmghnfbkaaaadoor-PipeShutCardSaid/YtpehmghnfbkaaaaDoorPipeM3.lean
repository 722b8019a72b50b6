/-
  Plain mathematics: what comes of talks is as it may be. No program.
-/
import Derived.Test.YtpehmghnfbkaaaaDoorPipeM2
namespace Go.Proofs.YtpehmghnfbkaaaaDoor
namespace Pp

theorem mem_frees {chs : List Ch} : ∀ {l : List Tk} {i k : Nat}, k ∈ frees chs l i → i ≤ k ∧ ∃ x, l[k - i]? = some x ∧ isFree chs x = true
  | [], _, _, h => by cases h
  | t :: l, i, k, h => by
    have go : k ∈ frees chs l (i + 1) → i ≤ k ∧ ∃ x, (t :: l)[k - i]? = some x ∧ isFree chs x = true := fun h => by
      obtain ⟨h1, x, h2, h3⟩ := mem_frees h
      refine ⟨by omega, x, ?_, h3⟩
      rw [show k - i = (k - (i + 1)) + 1 by omega, List.getElem?_cons_succ]; exact h2
    unfold frees at h
    split at h
    · next hf =>
      rcases List.mem_cons.1 h with rfl | h
      · exact ⟨Nat.le_refl _, t, by simp, hf⟩
      · exact go h
    · exact go h
theorem isFree_chan {chs : List Ch} {x : Tk} (h : isFree chs x = true) (h0 : 0 ≤ x.chan) : ∃ (k : Nat) (c : Ch), x.chan = (k : Int) + 1 ∧ chs[k]? = some c ∧ c.free x.what = true ∧ x.what ≠ 40 := by
  unfold isFree chan at h
  simp only [Bool.and_eq_true, decide_eq_true_eq] at h
  obtain ⟨h1, h2⟩ := h
  by_cases hc : x.chan = 0
  · simp [hc] at h2
  · rw [if_neg hc] at h2
    refine ⟨(x.chan - 1).toNat, ?_⟩
    cases hg : chs[(x.chan - 1).toNat]? with
    | none => rw [hg] at h2; cases h2
    | some c => rw [hg] at h2; exact ⟨c, by omega, rfl, h2, h1⟩
theorem Ok.send {s : St} (h : Ok s) {k : Nat} {c : Ch} (hc : s.chs[k]? = some c) (n : Int) : Ok (Pp.send s k c n).st := by
  unfold Pp.send
  split
  · exact h
  · split
    · next w r hr =>
      obtain ⟨l, x, h1, _⟩ := h.recvs k c hc w (by rw [hr]; exact List.mem_cons_self)
      exact h.wake h1
    · split
      · exact h
      · next hn =>
        refine h.nums k _ fun c' hc' => ?_
        rw [hc] at hc'
        cases hc'
        have := (h.caps k c hc).2
        rw [List.length_append, List.length_singleton]; omega
theorem Ok.recv {s : St} (h : Ok s) {k : Nat} {c : Ch} (hc : s.chs[k]? = some c) : Ok (Pp.recv s k c).st := by
  have hcap := (h.caps k c hc).2
  unfold Pp.recv
  split
  · exact h
  · next w r hn hs =>
    obtain ⟨l, x, h1, _⟩ := h.sends k c hc w (by rw [hs]; exact List.mem_cons_self)
    exact h.wake h1
  · next x r hn hs =>
    refine h.nums k _ fun c' hc' => ?_
    rw [hc] at hc'
    cases hc'
    rw [hn, List.length_cons] at hcap; omega
  · next x r w r2 hn hs =>
    obtain ⟨l, y, h1, _⟩ := h.sends k c hc w (by rw [hs]; exact List.mem_cons_self)
    have ha : Ok (setNums s k r) := h.nums k _ fun c' hc' => by
      rw [hc] at hc'
      cases hc'
      rw [hn, List.length_cons] at hcap; omega
    have hb : Ok (Pp.wake (setNums s k r) w.1) := ha.wake (l := l) h1
    refine hb.nums k _ fun c' hc' => ?_
    rw [wake_some (s := setNums s k r) (l := l) h1] at hc'
    obtain ⟨c0, h2, h3⟩ := get_strike (ha.le h1) hc'
    unfold setNums at h2
    simp only [List.getElem?_modify, hc] at h2
    simp at h2
    rw [h3.size, ← h2]
    rw [hn, List.length_cons] at hcap
    rw [List.length_append, List.length_singleton]; exact hcap
theorem Ok.doT {s : St} (h : Ok s) (t : Tk) : Ok (Pp.doT s t).st := by
  unfold Pp.doT
  split
  · exact h
  · next c hc =>
    split
    · exact h.recv hc
    · exact h.send hc _
theorem Ok.talk {s : St} (h : Ok s) (task : Int) (l : List Tk) (draw : Int) : Ok (Pp.talk s task l draw).st := by
  unfold Pp.talk
  split
  · exact h
  · next h1 =>
    split
    · exact h
    · next h2 =>
      split
      · exact h
      · next h3 =>
        split
        · simp only
          split
          · exact h.doT _
          · exact h.doT _
        · split
          · exact h
          · next h5 =>
            refine h.wait ?_ (other_good (k := 0) (o := -1) (by omega) (by omega) (by decide)) (by omega)
            cases hs : s.asks task with
            | none => rfl
            | some m => rw [hs] at h1; exact absurd rfl h1
theorem Ok.close {s : St} (h : Ok s) (c : Int) : Ok (Pp.close s c).st := by
  unfold Pp.close
  split
  · exact h
  · split
    · exact h
    · next x hx =>
      split
      · exact h
      · split
        · exact h
        · refine Ok.wakeAll (h.modify (c - 1).toNat (fun c => { c with shut := true, recvs := [] }) (fun _ _ e => e) (fun _ _ e => absurd e List.not_mem_nil) fun c' hc' => ?_) _
          exact ⟨rfl, (h.caps _ c' hc').2⟩
end Pp
end Go.Proofs.YtpehmghnfbkaaaaDoor
