/-
  Plain mathematics: who goes on waited, and waits no more; one at most. No program.
-/
import Derived.Test.YtpehmghnfbkaaaaPipeM3
namespace Go.Proofs.Ytpehmghnfbkaaaa
namespace Pp

/-- None goes on, and who waits is who waited; or one does, who waited. -/
def Once (s : St) (st : St) (wk : List Wk) : Prop :=
  (wk = [] ∧ ∀ x, (st.asks x).isSome = (s.asks x).isSome) ∨ ∃ w : Wk, wk = [w] ∧ (s.asks w.task).isSome = true ∧ ∀ x, (st.asks x).isSome = (!decide (x = w.task) && (s.asks x).isSome)
theorem wake_asks (s : St) (task x : Int) : ((wake s task).asks x).isSome = (!decide (x = task) && (s.asks x).isSome) := by
  unfold wake
  simp only
  by_cases e : x = task
  · simp [e]
  · simp [e]
theorem send_once {s : St} (ok : Ok s) {k : Nat} {c : Ch} (hc : s.chs[k]? = some c) (n : Int) : Once s (Pp.send s k c n).st (Pp.send s k c n).wakes := by
  unfold Pp.send
  split
  · exact Or.inl ⟨rfl, fun _ => rfl⟩
  · split
    · next w r hr =>
      obtain ⟨l, x, h1, _⟩ := ok.recvs k c hc w (by rw [hr]; exact List.mem_cons_self)
      exact Or.inr ⟨_, rfl, by simp [h1], fun x => wake_asks s w.1 x⟩
    · split
      · exact Or.inl ⟨rfl, fun _ => rfl⟩
      · exact Or.inl ⟨rfl, fun _ => rfl⟩
theorem recv_once {s : St} (ok : Ok s) {k : Nat} {c : Ch} (hc : s.chs[k]? = some c) : Once s (Pp.recv s k c).st (Pp.recv s k c).wakes := by
  unfold Pp.recv
  split
  · exact Or.inl ⟨rfl, fun _ => rfl⟩
  · next w r hn hs =>
    obtain ⟨l, x, h1, _⟩ := ok.sends k c hc w (by rw [hs]; exact List.mem_cons_self)
    exact Or.inr ⟨_, rfl, by simp [h1], fun x => wake_asks s w.1 x⟩
  · exact Or.inl ⟨rfl, fun _ => rfl⟩
  · next x r w r2 hn hs =>
    obtain ⟨l, y, h1, _⟩ := ok.sends k c hc w (by rw [hs]; exact List.mem_cons_self)
    exact Or.inr ⟨_, rfl, by simp [h1], fun x => wake_asks (setNums s k r) w.1 x⟩
theorem doT_once {s : St} (ok : Ok s) (t : Tk) : Once s (Pp.doT s t).st (Pp.doT s t).wakes := by
  unfold Pp.doT
  split
  · exact Or.inl ⟨rfl, fun _ => rfl⟩
  · next c hc =>
    split
    · exact recv_once ok hc
    · exact send_once ok hc _
theorem talk_once {s : St} (ok : Ok s) (task : Int) (l : List Tk) (draw : Int) : (Pp.talk s task l draw).err = 0 →
    ((Pp.talk s task l draw).waits = true ∧ (Pp.talk s task l draw).wakes = [] ∧ ∀ x, ((Pp.talk s task l draw).st.asks x).isSome = (decide (x = task) || (s.asks x).isSome)) ∨
    ((Pp.talk s task l draw).waits = false ∧ Once s (Pp.talk s task l draw).st (Pp.talk s task l draw).wakes) := by
  unfold Pp.talk
  split
  · intro h; simp at h
  · split
    · intro h; simp at h
    · split
      · next h3 => intro h; exact absurd h h3
      · split
        · simp only
          split
          · next h4 => intro h; exact absurd h h4
          · intro _
            exact Or.inr ⟨rfl, doT_once ok _⟩
        · split
          · intro _
            exact Or.inr ⟨rfl, Or.inl ⟨rfl, fun _ => rfl⟩⟩
          · intro _
            refine Or.inl ⟨rfl, rfl, fun x => ?_⟩
            unfold Pp.wait
            simp only
            by_cases e : x = task
            · simp [e]
            · simp [e]
end Pp
end Go.Proofs.Ytpehmghnfbkaaaa
