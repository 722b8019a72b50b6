/-
  Plain mathematics: one channel, tasks that send or receive, each once: what is in it, and who waits. No program.
-/
import Derived.Test.YtpehmghnfbkaaaaPipeM3
namespace Go.Proofs.Ytpehmghnfbkaaaa
namespace Pp

def wts (l : List Nat) : List (Int × Nat) := l.map fun (t : Nat) => ((t : Int), 0)
theorem off_wts {t : Nat} {l : List Nat} (h : t ∉ l) : off (t : Int) (wts l) = wts l := by
  refine List.filter_eq_self.2 fun w hw => ?_
  obtain ⟨x, hx, rfl⟩ := List.mem_map.1 hw
  have : x ≠ t := fun e => h (e ▸ hx)
  simp
  omega
theorem off_head {t : Nat} {l : List Nat} (h : t ∉ l) : off (t : Int) (wts (t :: l)) = wts l := by
  have : off (t : Int) (wts (t :: l)) = off (t : Int) (wts l) := by simp [off, wts]
  rw [this, off_wts h]
/-- S sent the numbers V, one behind the other; A asked; T is the next task. -/
structure Fi (size : Nat) (s : St) (S : List Nat) (V : List Int) (A : List Nat) (T : Nat) : Prop where
  chs : s.chs = [⟨size, (V.drop A.length).take size, false, wts (S.drop (A.length + size)), wts (A.drop S.length)⟩]
  len : V.length = S.length
  snd : ∀ (k t : Nat), S[k]? = some t → A.length + size ≤ k → ∃ v, V[k]? = some v ∧ s.asks t = some [⟨3, 1, v⟩]
  rcv : ∀ (k t : Nat), A[k]? = some t → S.length ≤ k → s.asks t = some [⟨10, 1, 0⟩]
  new : ∀ t : Nat, T ≤ t → s.asks t = none
  ltS : ∀ t ∈ S, t < T
  ltA : ∀ t ∈ A, t < T
  nodS : S.Nodup
  nodA : A.Nodup
  apart : ∀ t ∈ S, t ∉ A
theorem Fi.zero (size : Nat) : Fi size ⟨[newCh size], fun _ => none⟩ [] [] [] 0 :=
  ⟨by simp [newCh, wts], rfl, fun k t h => (by simp at h), fun k t h => (by simp at h), fun _ _ => rfl, fun t h => (by cases h), fun t h => (by cases h), List.nodup_nil, List.nodup_nil, fun t h => (by cases h)⟩
section
variable {size T : Nat} {s : St} {S A : List Nat} {V : List Int}
theorem one_other (x : Tk) (hw : x.what = 3 ∨ x.what = 10) (hc : x.chan = 1) : other 1 [x] 0 (-1) = (-1, 0) := by
  have hm : may 1 x.chan = true := by rw [hc]; decide
  have h40 : ¬ x.what = 40 := by omega
  have h310 : ¬ (x.what ≠ 3 ∧ x.what ≠ 10) := by omega
  simp [other, hm, h40]
  omega
/-- A talk of one, that is free. -/
theorem talk_free {c : Ch} {x : Tk} {task : Int} (hs : s.chs = [c]) (ha : s.asks task = none) (hw : x.what = 3 ∨ x.what = 10) (hc : x.chan = 1) (hf : c.free x.what = true) {g : Got} (hg : (if x.what = 10 then recv s 0 c else send s 0 c x.n) = g) (he : g.err = 0) :
    talk s task [x] 0 = ⟨g.st, 0, g.n, g.wakes, false, 0⟩ := by
  have h40 : ¬ x.what = 40 := by omega
  have hfr : frees s.chs [x] 0 = [0] := by
    have : isFree s.chs x = true := by
      unfold isFree chan
      rw [hc, hs]
      simp [h40, hf]
    simp [frees, this]
  have hd : doT s x = g := by
    unfold doT
    rw [hc, hs]
    exact hg
  have hl : s.chs.length = 1 := by rw [hs]; rfl
  unfold talk
  rw [if_neg (by rw [ha]; decide), if_neg (by simp), hl, one_other x hw hc, if_neg (by decide), hfr, if_pos (by decide)]
  have hk : ([0] : List Nat).getD (drawn 0 ([0] : List Nat).length) 0 = 0 := by decide
  simp only [hk, List.getD_cons_zero, hd]
  rw [if_neg (by rw [he]; decide)]; rfl
theorem talk_wait {c : Ch} {x : Tk} {task : Int} (hs : s.chs = [c]) (ha : s.asks task = none) (hw : x.what = 3 ∨ x.what = 10) (hc : x.chan = 1) (hf : c.free x.what = false) :
    talk s task [x] 0 = ⟨wait s task [x], 0, 0, [], true, 0⟩ := by
  have hfr : frees s.chs [x] 0 = [] := by
    have : isFree s.chs x = false := by
      unfold isFree chan
      rw [hc, hs]
      simp [hf]
    simp [frees, this]
  have hl : s.chs.length = 1 := by rw [hs]; rfl
  unfold talk
  rw [if_neg (by rw [ha]; decide), if_neg (by simp), hl, one_other x hw hc, if_neg (by decide), hfr, if_neg (by decide), if_neg (by decide)]
/-- A task that goes on. -/
theorem wake_one {c : Ch} {x : Tk} {task : Int} (hs : s.chs = [c]) (ha : s.asks task = some [x]) (hc : x.chan = 1) : wake s task = ⟨[c.strike task x.what], fun y => if y = task then none else s.asks y⟩ := by
  rw [wake_some ha]
  unfold strike
  rw [List.foldl_cons, List.foldl_nil, strikeAt, hc, hs]
  rfl
end
section
variable {size T : Nat} {s : St} {S A : List Nat} {V : List Int}
theorem Fi.newT (h : Fi size s S V A T) : s.asks (T : Int) = none := h.new T (Nat.le_refl _)
theorem drop_nodup_head {l : List Nat} (h : l.Nodup) {k t : Nat} (hk : l[k]? = some t) : l.drop k = t :: l.drop (k + 1) ∧ t ∉ l.drop (k + 1) := by
  have hlt := (List.getElem?_eq_some_iff.1 hk).1
  have e : l.drop k = t :: l.drop (k + 1) := by rw [List.drop_eq_getElem_cons hlt, (List.getElem?_eq_some_iff.1 hk).2]
  have hn : (l.drop k).Nodup := h.sublist (List.drop_sublist k l)
  rw [e] at hn
  exact ⟨e, (List.nodup_cons.1 hn).1⟩
theorem get_ne {l : List Nat} (h : l.Nodup) {i j x y : Nat} (hx : l[i]? = some x) (hy : l[j]? = some y) (hn : i ≠ j) : x ≠ y := fun e => by
  subst e
  exact hn ((List.getElem?_inj (List.getElem?_eq_some_iff.1 hx).1 h).1 (hx.trans hy.symm))
theorem notin_new (h : Fi size s S V A T) : T ∉ S ∧ T ∉ A := ⟨fun e => Nat.lt_irrefl _ (h.ltS T e), fun e => Nat.lt_irrefl _ (h.ltA T e)⟩
theorem nodup_snoc {l : List Nat} {t : Nat} (h : l.Nodup) (hn : t ∉ l) : (l ++ [t]).Nodup := by
  rw [List.nodup_append]
  exact ⟨h, by simp, fun a ha b hb e => by rw [List.mem_singleton] at hb; exact hn (hb ▸ e ▸ ha)⟩
/-- A send, where somebody waits. -/
theorem Fi.sendWake (h : Fi size s S V A T) (v : Int) (hlt : S.length < A.length) : ∃ t st, A[S.length]? = some t ∧ talk s T [⟨3, 1, v⟩] 0 = ⟨st, 0, 0, [⟨t, 0, v⟩], false, 0⟩ ∧ Fi size st (S ++ [T]) (V ++ [v]) A (T + 1) := by
  obtain ⟨t, ht⟩ : ∃ t, A[S.length]? = some t := ⟨_, List.getElem?_eq_getElem hlt⟩
  obtain ⟨hd, hnot⟩ := drop_nodup_head h.nodA ht
  have hask := h.rcv S.length t ht (Nat.le_refl _)
  have hr : (wts (A.drop S.length)) = ((t : Int), 0) :: wts (A.drop (S.length + 1)) := by rw [hd]; rfl
  have hVd : V.drop A.length = [] := List.drop_eq_nil_of_le (by rw [h.len]; omega)
  have hVd2 : (V ++ [v]).drop A.length = [] := List.drop_eq_nil_of_le (by rw [List.length_append, h.len, List.length_singleton]; omega)
  have hSd : S.drop (A.length + size) = [] := List.drop_eq_nil_of_le (by omega)
  have hSd2 : (S ++ [T]).drop (A.length + size) = [] := List.drop_eq_nil_of_le (by rw [List.length_append, List.length_singleton]; omega)
  have hch := h.chs
  refine ⟨t, wake s t, ht, talk_free (x := ⟨3, 1, v⟩) hch h.newT (Or.inl rfl) rfl ?_ (g := ⟨wake s t, 0, [⟨t, 0, v⟩], 0⟩) ?_ rfl, ?_⟩
  · simp [Ch.free, hr]
  · rw [if_neg (show ¬ ((3 : Int) = 10) by decide)]
    unfold send
    rw [if_neg (show ¬ (false = true) by decide)]
    simp only [hr]
  · rw [wake_one hch hask rfl]
    obtain ⟨hTS, hTA⟩ := notin_new h
    have htA : t ∈ A := List.mem_of_getElem? ht
    refine ⟨?_, by rw [List.length_append, List.length_append, h.len]; rfl, fun k x hk hle => ?_, fun k x hk hle => ?_, fun x hx => ?_, fun x hx => ?_, fun x hx => Nat.lt_succ_of_lt (h.ltA x hx), nodup_snoc h.nodS hTS, h.nodA, fun x hx => ?_⟩
    · simp only [Ch.strike]
      rw [if_neg (by decide), hVd2, hSd2, hVd, hSd, hd, off_head hnot, List.length_append, List.length_singleton]
    · exfalso
      have := (List.getElem?_eq_some_iff.1 hk).1
      rw [List.length_append, List.length_singleton] at this
      omega
    · rw [List.length_append, List.length_singleton] at hle
      have hne : x ≠ t := get_ne h.nodA hk ht (by omega)
      show (if (x : Int) = (t : Int) then none else s.asks x) = _
      rw [if_neg (by omega)]
      exact h.rcv k x hk (by omega)
    · show (if (x : Int) = (t : Int) then none else s.asks x) = _
      have := h.ltA t htA
      rw [if_neg (by omega)]
      exact h.new x (by omega)
    · rcases List.mem_append.1 hx with h1 | h1
      · exact Nat.lt_succ_of_lt (h.ltS x h1)
      · rw [List.mem_singleton] at h1; omega
    · rcases List.mem_append.1 hx with h1 | h1
      · exact h.apart x h1
      · rw [List.mem_singleton] at h1; rw [h1]; exact hTA
/-- A send, where there is room. -/
theorem Fi.sendRoom (h : Fi size s S V A T) (v : Int) (hle : A.length ≤ S.length) (hlt : S.length < A.length + size) : ∃ st, talk s T [⟨3, 1, v⟩] 0 = ⟨st, 0, 0, [], false, 0⟩ ∧ Fi size st (S ++ [T]) (V ++ [v]) A (T + 1) := by
  have hch := h.chs
  have hAd : A.drop S.length = [] := List.drop_eq_nil_of_le hle
  have hlenV : ((V.drop A.length).take size).length = S.length - A.length := by rw [List.length_take, List.length_drop, h.len]; omega
  have hne : ¬ ((V.drop A.length).take size).length = size := by omega
  refine ⟨setNums s 0 ((V.drop A.length).take size ++ [v]), talk_free (x := ⟨3, 1, v⟩) hch h.newT (Or.inl rfl) rfl ?_ (g := ⟨setNums s 0 ((V.drop A.length).take size ++ [v]), 0, [], 0⟩) ?_ rfl, ?_⟩
  · simp only [Ch.free, Bool.false_or, if_true]
    rw [Bool.or_eq_true]
    exact Or.inr (by rw [decide_eq_true_eq]; omega)
  · rw [if_neg (show ¬ ((3 : Int) = 10) by decide)]
    unfold send
    rw [if_neg (show ¬ (false = true) by decide)]
    have hw : wts (A.drop S.length) = [] := by rw [hAd]; rfl
    simp only [hw]
    rw [if_neg hne]
  · obtain ⟨hTS, hTA⟩ := notin_new h
    refine ⟨?_, by rw [List.length_append, List.length_append, h.len]; rfl, fun k x hk hle2 => ?_, fun k x hk hle2 => ?_, fun x hx => h.new x (by omega), fun x hx => ?_, fun x hx => Nat.lt_succ_of_lt (h.ltA x hx), nodup_snoc h.nodS hTS, h.nodA, fun x hx => ?_⟩
    · unfold setNums
      rw [hch]
      simp only [List.modify_cons, List.length_append, List.length_singleton]
      have e1 : (V ++ [v]).drop A.length = V.drop A.length ++ [v] := by rw [List.drop_append_of_le_length (by rw [h.len]; omega)]
      have e2 : (V.drop A.length).length = S.length - A.length := by rw [List.length_drop, h.len]
      have e3 : (S ++ [T]).drop (A.length + size) = S.drop (A.length + size) := by
        rw [List.drop_eq_nil_of_le (by rw [List.length_append, List.length_singleton]; omega), List.drop_eq_nil_of_le (by omega)]
      have e4 : A.drop (S.length + 1) = A.drop S.length := by rw [hAd, List.drop_eq_nil_of_le (by omega)]
      rw [e1, e3, e4, List.take_of_length_le (by omega), List.take_of_length_le (by rw [List.length_append, List.length_singleton]; omega)]
      rfl
    · exfalso
      have := (List.getElem?_eq_some_iff.1 hk).1
      rw [List.length_append, List.length_singleton] at this
      omega
    · exfalso
      have := (List.getElem?_eq_some_iff.1 hk).1
      rw [List.length_append, List.length_singleton] at hle2
      omega
    · rcases List.mem_append.1 hx with h1 | h1
      · exact Nat.lt_succ_of_lt (h.ltS x h1)
      · rw [List.mem_singleton] at h1; omega
    · rcases List.mem_append.1 hx with h1 | h1
      · exact h.apart x h1
      · rw [List.mem_singleton] at h1; rw [h1]; exact hTA
theorem wait_one {c : Ch} {x : Tk} {task : Int} (hs : s.chs = [c]) (hc : x.chan = 1) : wait s task [x] = ⟨[c.lay task x.what 0], fun y => if y = task then some [x] else s.asks y⟩ := by
  unfold wait
  rw [lay, lay, layAt, hc, hs]
  rfl
/-- A send that waits. -/
theorem Fi.sendWait (h : Fi size s S V A T) (v : Int) (hle : A.length + size ≤ S.length) : ∃ st, talk s T [⟨3, 1, v⟩] 0 = ⟨st, 0, 0, [], true, 0⟩ ∧ Fi size st (S ++ [T]) (V ++ [v]) A (T + 1) := by
  have hch := h.chs
  have hAd : A.drop S.length = [] := List.drop_eq_nil_of_le (by omega)
  have hlenV : ((V.drop A.length).take size).length = size := by rw [List.length_take, List.length_drop, h.len]; omega
  have hw : wts (A.drop S.length) = [] := by rw [hAd]; rfl
  refine ⟨wait s T [⟨3, 1, v⟩], talk_wait (x := ⟨3, 1, v⟩) hch h.newT (Or.inl rfl) rfl ?_, ?_⟩
  · simp only [Ch.free, Bool.false_or, if_true, hw, hlenV]
    simp
  · rw [wait_one hch rfl]
    obtain ⟨hTS, hTA⟩ := notin_new h
    refine ⟨?_, by rw [List.length_append, List.length_append, h.len]; rfl, fun k x hk hle2 => ?_, fun k x hk hle2 => ?_, fun x hx => ?_, fun x hx => ?_, fun x hx => Nat.lt_succ_of_lt (h.ltA x hx), nodup_snoc h.nodS hTS, h.nodA, fun x hx => ?_⟩
    · simp only [Ch.lay, if_true]
      have e1 : (V ++ [v]).drop A.length = V.drop A.length ++ [v] := by rw [List.drop_append_of_le_length (by rw [h.len]; omega)]
      have e3 : (S ++ [T]).drop (A.length + size) = S.drop (A.length + size) ++ [T] := by rw [List.drop_append_of_le_length hle]
      have e4 : A.drop (S.length + 1) = A.drop S.length := by rw [hAd, List.drop_eq_nil_of_le (by omega)]
      have e5 : (V.drop A.length ++ [v]).take size = (V.drop A.length).take size := by rw [List.take_append_of_le_length (by rw [List.length_drop, h.len]; omega)]
      rw [e1, e3, e5, List.length_append, List.length_singleton, e4]
      simp [wts]
    · by_cases hkS : k < S.length
      · rw [List.getElem?_append_left hkS] at hk
        obtain ⟨v', h1, h2⟩ := h.snd k x hk hle2
        have hx : x ∈ S := List.mem_of_getElem? hk
        have := h.ltS x hx
        refine ⟨v', by rw [List.getElem?_append_left (by rw [h.len]; exact hkS)]; exact h1, ?_⟩
        show (if (x : Int) = (T : Int) then some [⟨3, 1, v⟩] else s.asks x) = _
        rw [if_neg (by omega)]; exact h2
      · have hk0 : k = S.length := by
          have := (List.getElem?_eq_some_iff.1 hk).1
          rw [List.length_append, List.length_singleton] at this
          omega
        subst hk0
        rw [List.getElem?_append_right (Nat.le_refl _), Nat.sub_self] at hk
        cases hk
        refine ⟨v, by rw [List.getElem?_append_right (by rw [h.len]; exact Nat.le_refl _), h.len, Nat.sub_self]; rfl, ?_⟩
        show (if (T : Int) = (T : Int) then some [⟨3, 1, v⟩] else s.asks T) = _
        rw [if_pos rfl]
    · exfalso
      have := (List.getElem?_eq_some_iff.1 hk).1
      rw [List.length_append, List.length_singleton] at hle2
      omega
    · show (if (x : Int) = (T : Int) then some [⟨3, 1, v⟩] else s.asks x) = _
      rw [if_neg (by omega)]; exact h.new x (by omega)
    · rcases List.mem_append.1 hx with h1 | h1
      · exact Nat.lt_succ_of_lt (h.ltS x h1)
      · rw [List.mem_singleton] at h1; omega
    · rcases List.mem_append.1 hx with h1 | h1
      · exact h.apart x h1
      · rw [List.mem_singleton] at h1; rw [h1]; exact hTA
/-- A receive that waits. -/
theorem Fi.recvWait (h : Fi size s S V A T) (hle : S.length ≤ A.length) : ∃ st, talk s T [⟨10, 1, 0⟩] 0 = ⟨st, 0, 0, [], true, 0⟩ ∧ Fi size st S V (A ++ [T]) (T + 1) := by
  have hch := h.chs
  have hVd : V.drop A.length = [] := List.drop_eq_nil_of_le (by rw [h.len]; omega)
  have hSd : S.drop (A.length + size) = [] := List.drop_eq_nil_of_le (by omega)
  refine ⟨wait s T [⟨10, 1, 0⟩], talk_wait (x := ⟨10, 1, 0⟩) hch h.newT (Or.inr rfl) rfl ?_, ?_⟩
  · simp only [Ch.free, Bool.false_or, hVd, hSd]
    simp [wts]
  · rw [wait_one hch rfl]
    obtain ⟨hTS, hTA⟩ := notin_new h
    refine ⟨?_, h.len, fun k x hk hle2 => ?_, fun k x hk hle2 => ?_, fun x hx => ?_, fun x hx => Nat.lt_succ_of_lt (h.ltS x hx), fun x hx => ?_, h.nodS, nodup_snoc h.nodA hTA, fun x hx => ?_⟩
    · simp only [Ch.lay]
      rw [if_neg (by decide)]
      have e1 : V.drop (A.length + 1) = [] := List.drop_eq_nil_of_le (by rw [h.len]; omega)
      have e3 : S.drop (A.length + 1 + size) = [] := List.drop_eq_nil_of_le (by omega)
      have e4 : (A ++ [T]).drop S.length = A.drop S.length ++ [T] := by rw [List.drop_append_of_le_length hle]
      rw [List.length_append, List.length_singleton, e1, e3, e4, hVd, hSd]
      simp [wts]
    · exfalso
      have := (List.getElem?_eq_some_iff.1 hk).1
      rw [List.length_append, List.length_singleton] at hle2
      omega
    · by_cases hkA : k < A.length
      · rw [List.getElem?_append_left hkA] at hk
        have hx : x ∈ A := List.mem_of_getElem? hk
        have := h.ltA x hx
        show (if (x : Int) = (T : Int) then some [⟨10, 1, 0⟩] else s.asks x) = _
        rw [if_neg (by omega)]; exact h.rcv k x hk hle2
      · have hk0 : k = A.length := by
          have := (List.getElem?_eq_some_iff.1 hk).1
          rw [List.length_append, List.length_singleton] at this
          omega
        subst hk0
        rw [List.getElem?_append_right (Nat.le_refl _), Nat.sub_self] at hk
        cases hk
        show (if (T : Int) = (T : Int) then some [⟨10, 1, 0⟩] else s.asks T) = _
        rw [if_pos rfl]
    · show (if (x : Int) = (T : Int) then some [⟨10, 1, 0⟩] else s.asks x) = _
      rw [if_neg (by omega)]; exact h.new x (by omega)
    · rcases List.mem_append.1 hx with h1 | h1
      · exact Nat.lt_succ_of_lt (h.ltA x h1)
      · rw [List.mem_singleton] at h1; omega
    · rw [List.mem_append, List.mem_singleton]
      rintro (h1 | h1)
      · exact h.apart x hx h1
      · exact hTS (h1 ▸ hx)
/-- A receive that has a number. -/
theorem Fi.recvGet (h : Fi size s S V A T) (hlt : A.length < S.length) : ∃ v st wk, V[A.length]? = some v ∧ talk s T [⟨10, 1, 0⟩] 0 = ⟨st, 0, v, wk, false, 0⟩ ∧ (wk = [] ∨ ∃ t : Nat, t ∈ S ∧ wk = [⟨t, 0, 0⟩]) ∧ Fi size st S V (A ++ [T]) (T + 1) := by
  have hch := h.chs
  obtain ⟨hTS, hTA⟩ := notin_new h
  obtain ⟨v, hv⟩ : ∃ v, V[A.length]? = some v := ⟨_, List.getElem?_eq_getElem (by rw [h.len]; exact hlt)⟩
  have hVd : V.drop A.length = v :: V.drop (A.length + 1) := by rw [List.drop_eq_getElem_cons (by rw [h.len]; exact hlt), (List.getElem?_eq_some_iff.1 hv).2]
  have hAd : A.drop S.length = [] := List.drop_eq_nil_of_le (by omega)
  have hAd2 : (A ++ [T]).drop S.length = [] := List.drop_eq_nil_of_le (by rw [List.length_append, List.length_singleton]; omega)
  have hl1 : (A ++ [T]).length = A.length + 1 := by rw [List.length_append, List.length_singleton]
  -- what stays so, whoever goes on
  have rest : ∀ st : St, st.chs = [⟨size, (V.drop (A.length + 1)).take size, false, wts (S.drop (A.length + 1 + size)), []⟩] → (∀ (k t : Nat), S[k]? = some t → A.length + 1 + size ≤ k → st.asks t = s.asks t) → (∀ t : Nat, T + 1 ≤ t → st.asks t = none) → Fi size st S V (A ++ [T]) (T + 1) := fun st h1 h2 h3 => by
    refine ⟨by rw [h1, hl1, hAd2]; rfl, h.len, fun k x hk hle => ?_, fun k x hk hle => ?_, h3, fun x hx => Nat.lt_succ_of_lt (h.ltS x hx), fun x hx => ?_, h.nodS, nodup_snoc h.nodA hTA, fun x hx => ?_⟩
    · rw [hl1] at hle
      rw [h2 k x hk hle]
      exact h.snd k x hk (by omega)
    · exfalso
      have := (List.getElem?_eq_some_iff.1 hk).1
      rw [hl1] at this
      omega
    · rcases List.mem_append.1 hx with h1 | h1
      · exact Nat.lt_succ_of_lt (h.ltA x h1)
      · rw [List.mem_singleton] at h1; omega
    · rw [List.mem_append, List.mem_singleton]
      rintro (h1 | h1)
      · exact h.apart x hx h1
      · exact hTS (h1 ▸ hx)
  have hw0 : wts (A.drop S.length) = [] := by rw [hAd]; rfl
  rcases Nat.lt_or_ge (A.length + size) S.length with hs | hs
  · -- somebody waits to send
    obtain ⟨t, ht⟩ : ∃ t, S[A.length + size]? = some t := ⟨_, List.getElem?_eq_getElem hs⟩
    obtain ⟨hd, hnot⟩ := drop_nodup_head h.nodS ht
    obtain ⟨u, hu1, hu2⟩ := h.snd _ t ht (Nat.le_refl _)
    have hsn : wts (S.drop (A.length + size)) = ((t : Int), 0) :: wts (S.drop (A.length + size + 1)) := by rw [hd]; rfl
    have hpos : 0 < (wts (S.drop (A.length + size))).length := by rw [hsn]; simp
    have hfree : Ch.free ⟨size, (V.drop A.length).take size, false, wts (S.drop (A.length + size)), wts (A.drop S.length)⟩ 10 = true := by
      unfold Ch.free
      rw [if_neg (show ¬ ((10 : Int) = 3) by decide), Bool.false_or, Bool.or_eq_true]
      exact Or.inr (by rw [decide_eq_true_eq]; exact hpos)
    have htS : t ∈ S := List.mem_of_getElem? ht
    have htT := h.ltS t htS
    have hsent : sent s ((t : Int), 0) = u := by unfold sent; simp [hu2]
    have hask : ∀ (st : St), st.asks = (fun y => if y = (t : Int) then none else s.asks y) → (∀ (k x : Nat), S[k]? = some x → A.length + 1 + size ≤ k → st.asks x = s.asks x) ∧ ∀ x : Nat, T + 1 ≤ x → st.asks x = none := fun st hst => by
      refine ⟨fun k x hk hle => ?_, fun x hx => ?_⟩
      · have hne : x ≠ t := get_ne h.nodS hk ht (by omega)
        rw [hst]
        show (if (x : Int) = (t : Int) then none else s.asks x) = _
        rw [if_neg (by omega)]
      · rw [hst]
        show (if (x : Int) = (t : Int) then none else s.asks x) = _
        rw [if_neg (by omega)]; exact h.new x (by omega)
    rcases Nat.eq_zero_or_pos size with h0 | h0
    · subst h0
      have hn0 : (V.drop A.length).take 0 = [] := List.take_zero
      have huv : u = v := by rw [Nat.add_zero, hv] at hu1; exact (Option.some.inj hu1).symm
      obtain ⟨q1, q2⟩ := hask (wake s t) (by rw [wake_one hch hu2 rfl])
      refine ⟨v, wake s t, [⟨t, 0, 0⟩], hv, talk_free (x := ⟨10, 1, 0⟩) hch h.newT (Or.inr rfl) rfl ?_ (g := ⟨wake s t, v, [⟨t, 0, 0⟩], 0⟩) ?_ rfl, Or.inr ⟨t, htS, rfl⟩, rest _ ?_ q1 q2⟩
      · exact hfree
      · rw [if_pos rfl]
        unfold recv
        simp only [hn0, hsn, hsent, huv]
      · rw [wake_one hch hu2 rfl]
        simp only [Ch.strike, if_true]
        rw [hd, off_head hnot, hw0, List.take_zero, List.take_zero, show A.length + 0 + 1 = A.length + 1 + 0 by omega]
    · obtain ⟨m, rfl⟩ : ∃ m, size = m + 1 := ⟨size - 1, by omega⟩
      have hnv : (V.drop A.length).take (m + 1) = v :: (V.drop (A.length + 1)).take m := by rw [hVd, List.take_succ_cons]
      have hsetc : (setNums s 0 ((V.drop (A.length + 1)).take m)).chs = [⟨m + 1, (V.drop (A.length + 1)).take m, false, wts (S.drop (A.length + (m + 1))), wts (A.drop S.length)⟩] := by unfold setNums; rw [hch]; rfl
      have hseta : (setNums s 0 ((V.drop (A.length + 1)).take m)).asks (t : Int) = some [⟨3, 1, u⟩] := hu2
      have hwk := wake_one hsetc hseta rfl
      obtain ⟨q1, q2⟩ := hask (setNums (wake (setNums s 0 ((V.drop (A.length + 1)).take m)) t) 0 ((V.drop (A.length + 1)).take m ++ [u])) (by rw [hwk]; rfl)
      refine ⟨v, setNums (wake (setNums s 0 ((V.drop (A.length + 1)).take m)) t) 0 ((V.drop (A.length + 1)).take m ++ [u]), [⟨t, 0, 0⟩], hv, talk_free (x := ⟨10, 1, 0⟩) hch h.newT (Or.inr rfl) rfl ?_ (g := ⟨_, v, [⟨t, 0, 0⟩], 0⟩) ?_ rfl, Or.inr ⟨t, htS, rfl⟩, rest _ ?_ q1 q2⟩
      · exact hfree
      · rw [if_pos rfl]
        unfold recv
        simp only [hnv, hsn, hsent]
        rfl
      · rw [hwk]
        unfold setNums
        simp only [List.modify_cons, Ch.strike, if_true]
        rw [hd, off_head hnot, hw0]
        have e1 : (V.drop (A.length + 1)).take (m + 1) = (V.drop (A.length + 1)).take m ++ [u] := by
          have hm : (V.drop (A.length + 1))[m]? = some u := by rw [List.getElem?_drop, show A.length + 1 + m = A.length + (m + 1) by omega]; exact hu1
          rw [List.take_succ_eq_append_getElem (List.getElem?_eq_some_iff.1 hm).1, (List.getElem?_eq_some_iff.1 hm).2]
        rw [e1, show A.length + (m + 1) + 1 = A.length + 1 + (m + 1) by omega]
  · -- nobody waits to send
    have hSd : S.drop (A.length + size) = [] := List.drop_eq_nil_of_le hs
    have hsn : wts (S.drop (A.length + size)) = [] := by rw [hSd]; rfl
    obtain ⟨m, rfl⟩ : ∃ m, size = m + 1 := ⟨size - 1, by omega⟩
    have hnv : (V.drop A.length).take (m + 1) = v :: (V.drop (A.length + 1)).take m := by rw [hVd, List.take_succ_cons]
    have hnv2 : (V.drop (A.length + 1)).take m = (V.drop (A.length + 1)).take (m + 1) := by
      rw [List.take_of_length_le (by rw [List.length_drop, h.len]; omega), List.take_of_length_le (by rw [List.length_drop, h.len]; omega)]
    refine ⟨v, setNums s 0 ((V.drop (A.length + 1)).take m), [], hv, talk_free (x := ⟨10, 1, 0⟩) hch h.newT (Or.inr rfl) rfl ?_ (g := ⟨_, v, [], 0⟩) ?_ rfl, Or.inl rfl, rest _ ?_ (fun _ _ _ _ => rfl) fun x hx => h.new x (by omega)⟩
    · simp [Ch.free, hnv]
    · rw [if_pos rfl]
      unfold recv
      simp only [hnv, hsn]
      rfl
    · unfold setNums
      rw [hch]
      simp only [List.modify_cons]
      rw [hsn, hw0, hnv2, List.drop_eq_nil_of_le (show S.length ≤ A.length + 1 + (m + 1) by omega)]
      rfl
end
end Pp
end Go.Proofs.Ytpehmghnfbkaaaa
