/-
  A clock's calls, each in one word; the laws' fact 'clocked'.
-/
import Derived.Test.YtonpbbflloljgaaClockD
namespace Go.Proofs.Ytonpbbflloljgaa
open Go.RowKit Go.Maps

theorem ClockAt.short {w : World} {cb : Nat} {F : Nat → Prop} {now : Int} {l : List Hp.E} (h : ClockAt w cb F now l) : l.length ≤ 1000 := by
  rcases h.q with ⟨rfl, _⟩ | ⟨v, mb, D, hq, _⟩
  · exact Nat.zero_le _
  · exact hq.p.len
theorem idIn_iff {l : List Hp.E} {id : Int} : IdIn l id ↔ ∃ e ∈ l, e.2 = id :=
  ⟨fun ⟨i, hi, e⟩ => ⟨_, g_mem hi, e⟩, fun ⟨e, he, h⟩ => by obtain ⟨i, hi, rfl⟩ := List.mem_iff_getElem.1 he; exact ⟨i, hi, by rw [Hp.g_eq hi]; exact h⟩⟩
/-- Each id is there once. -/
theorem ClockAt.once {w : World} {cb : Nat} {F : Nat → Prop} {now : Int} {l : List Hp.E} (h : ClockAt w cb F now l) : (l.map (·.2)).Nodup := by
  rcases h.q with ⟨rfl, _⟩ | ⟨v, mb, D, hq, _⟩
  · exact List.nodup_nil
  · rw [List.nodup_iff_pairwise_ne, List.pairwise_iff_getElem]
    intro p q hp1 hq1 hpq e5
    simp only [List.length_map] at hp1 hq1
    simp only [List.getElem_map] at e5
    have := hq.p.inj (i := p) (j := q) hp1 hq1 (by rw [Hp.g_eq hp1, Hp.g_eq hq1]; exact e5)
    omega

/-- What Set comes to. -/
def SetR (now : Int) (l : List Hp.E) (t id : Int) (r : Value) (l' : List Hp.E) : Prop :=
  (t < now ∧ r = .iface 47 (.int .i64 2) ∧ l' = l) ∨ (now ≤ t ∧ IdIn l id ∧ r = .iface 47 (.int .i64 9) ∧ l' = l) ∨ (now ≤ t ∧ ¬ IdIn l id ∧ r = .nilIface ∧ l'.Perm (l ++ [(t, id)]))
theorem cset_any {F : Nat → Prop} {cb : Nat} {now : Int} {l : List Hp.E} (w : World) (h : ClockAt w cb F now l) (t id : Int) (hw : (Lit.int .i64 id).wf = true) (hl : l.length < 1000) :
    Calls Try.prog 7 #[.pointer (some ⟨cb, 0, none⟩), .int .i64 t, .int .i64 id] w fun e w' => ∃ r F' l', e = .returned r ∧ ClockAt w' cb F' now l' ∧ Grows w F F' ∧ Keeps F w w' ∧ SetR now l t id r l' := by
  by_cases ht : t < now
  · refine (cset_range w h t id ht).mono ?_
    rintro e w' ⟨rfl, rfl⟩
    exact ⟨_, F, l, rfl, h, fun b hb => Or.inl hb, Keeps.refl _ _, Or.inl ⟨ht, rfl, rfl⟩⟩
  · by_cases hi : IdIn l id
    · obtain ⟨i, hi1, rfl⟩ := hi
      refine (cset_twice w h t (by omega) i hi1).mono ?_
      rintro e w' ⟨rfl, rfl⟩
      exact ⟨_, F, l, rfl, h, fun b hb => Or.inl hb, Keeps.refl _ _, Or.inr (Or.inl ⟨by omega, ⟨i, hi1, rfl⟩, rfl, rfl⟩)⟩
    · refine (cset_ok w h t id (by omega) hw hi hl).mono ?_
      rintro e w' ⟨rfl, F', l', h1, h2, h3, h4⟩
      exact ⟨_, F', l', rfl, h1, h3, h4, Or.inr (Or.inr ⟨by omega, hi, rfl, h2⟩)⟩
/-- What Due comes to: nothing; or those of the earliest time, rising. -/
def DueR (now : Int) (l : List Hp.E) (ids : List Int) (m : Int) (l' : List Hp.E) : Prop :=
  (l = [] ∧ ids = [] ∧ m = now ∧ l' = []) ∨ (now ≤ m ∧ 0 < ids.length ∧ l.Perm (ids.map (fun i => (m, i)) ++ l') ∧ ids.Pairwise (· < ·) ∧ ∀ e ∈ l', m < e.1)
theorem cdue_any {F : Nat → Prop} {cb : Nat} {now : Int} {l : List Hp.E} (w : World) (h : ClockAt w cb F now l) :
    Calls Try.prog 10 #[.pointer (some ⟨cb, 0, none⟩)] w fun e w' => ∃ v ids m l', e = .returned v ∧ OwnI w' w.heap.size v ids ∧ ClockAt w' cb F m l' ∧ Keeps F w w' ∧ DueR now l ids m l' := by
  cases l with
  | nil =>
    refine (cdue_none w h).mono ?_
    rintro e w' ⟨rfl, rfl⟩
    exact ⟨_, [], now, [], rfl, ownI_nil _ _, h, Keeps.refl _ _, Or.inl ⟨rfl, rfl, rfl, rfl⟩⟩
  | cons x l =>
    have hnow := h.le 0 (by simp)
    refine (cdue_ok w h (by simp)).mono ?_
    rintro e w' ⟨v, ids, l', rfl, hd, hg, hp⟩
    exact ⟨v, ids, _, l', rfl, hd.own, hd.c, hd.k, Or.inr ⟨hnow, hp, hd.perm, hd.srt, fun e he => by
      obtain ⟨i, hi, rfl⟩ := List.mem_iff_getElem.1 he
      have := hg i hi
      rwa [Hp.g_eq hi] at this⟩⟩
theorem cnext_any {F : Nat → Prop} {cb : Nat} {now : Int} {l : List Hp.E} (w : World) (h : ClockAt w cb F now l) :
    Calls Try.prog 18 #[.pointer (some ⟨cb, 0, none⟩)] w fun e w' => ∃ (x : Int) (b : Bool), e = .returned (.tuple #[.int .i64 x, .bool b]) ∧ w = w' ∧ ((b = true ∧ 0 < l.length ∧ x = (Hp.g l 0).1 ∧ now ≤ x ∧ (∃ e ∈ l, e.1 = x) ∧ ∀ e ∈ l, x ≤ e.1) ∨ (b = false ∧ x = 0 ∧ l = [])) := by
  cases l with
  | nil =>
    refine (cnext_none w h).mono ?_
    rintro e w' ⟨rfl, rfl⟩
    exact ⟨0, false, rfl, rfl, Or.inr ⟨rfl, rfl, rfl⟩⟩
  | cons x l =>
    have hnow := h.le 0 (by simp)
    obtain ⟨eb, cap, mb, D, hq, -⟩ := h.hq (by simp)
    refine (cnext_ok w h (by simp)).mono ?_
    rintro e w' ⟨rfl, rfl⟩
    refine ⟨_, true, rfl, rfl, Or.inl ⟨rfl, by simp, rfl, hnow, ⟨_, g_mem (by simp), rfl⟩, fun e he => ?_⟩⟩
    obtain ⟨i, hi, rfl⟩ := List.mem_iff_getElem.1 he
    have := Hp.le_fst (hq.heap.root i hi)
    rwa [Hp.g_eq hi] at this

/-- Those of time m in a list that was parted so. -/
theorem due_part {m : Int} {l l' : List Hp.E} {ids : List Int} (hp : l.Perm (ids.map (fun i => (m, i)) ++ l')) (hg : ∀ e ∈ l', m < e.1) : ((l.filter (fun e => decide (e.1 = m))).map (·.2)).Perm ids ∧ (l.filter (fun e => decide (m < e.1))).Perm l' := by
  have h1 := hp.filter (fun e => decide (e.1 = m))
  have h2 := hp.filter (fun e => decide (m < e.1))
  rw [List.filter_append] at h1 h2
  have a1 : (ids.map (fun i => (m, i))).filter (fun e => decide (e.1 = m)) = ids.map (fun i => (m, i)) := List.filter_eq_self.2 fun e he => by obtain ⟨i, _, rfl⟩ := List.mem_map.1 he; simp
  have a2 : l'.filter (fun e => decide (e.1 = m)) = [] := List.filter_eq_nil_iff.2 fun e he => by have := hg e he; simp; omega
  have a3 : (ids.map (fun i => (m, i))).filter (fun e => decide (m < e.1)) = [] := List.filter_eq_nil_iff.2 fun e he => by obtain ⟨i, _, rfl⟩ := List.mem_map.1 he; simp
  have a4 : l'.filter (fun e => decide (m < e.1)) = l' := List.filter_eq_self.2 fun e he => by simpa using hg e he
  rw [a1, a2, List.append_nil] at h1
  rw [a3, a4, List.nil_append] at h2
  refine ⟨?_, h2⟩
  have := h1.map (·.2)
  simpa [List.map_map, Function.comp_def] using this
/-- Rising lists of the same things are the same. -/
theorem rising_eq {a b : List Int} (ha : a.Pairwise (· < ·)) (hb : b.Pairwise (· < ·)) (h : a.Perm b) : a = b :=
  List.Perm.eq_of_pairwise (fun x y _ _ h1 h2 => absurd h1 (by omega)) ha hb h

/-- A clock that has just been laid. -/
theorem fresh_clock (w : World) : ClockAt (w.alloc (.cells #[.int .i64 0, .slice none 0 0, .map none, .nilFunc] 31)) w.heap.size (fun b => b = w.heap.size) 0 [] :=
  ⟨by simp, by simp, rfl, fun b hb => by rw [hb]; simp, fun i hi => absurd hi (Nat.not_lt_zero _), Or.inl ⟨rfl, by simp, by simp, by simp, fun o => by simp⟩⟩

theorem wf_small (n : Int) (h0 : -9223372036854775808 ≤ n) (h1 : n ≤ 9223372036854775807) : (Lit.int .i64 n).wf = true := WalkArith.wf_i64 (by omega)

theorem clocked_math {l1 l2 l3 l' : List Hp.E} {ids : List Int} {m : Int} (h1 : l1.Perm ([] ++ [(5, 1)])) (h2 : l2.Perm (l1 ++ [(3, 9)])) (h3 : l3.Perm (l2 ++ [(3, 2)])) (hd : DueR 0 l3 ids m l') : ids = [2, 9] ∧ m = 3 ∧ l' = [(5, 1)] := by
  have hp : l3.Perm [(5, 1), (3, 9), (3, 2)] := by
    have a := h2.trans (List.Perm.append_right _ h1)
    have b := h3.trans (List.Perm.append_right _ a)
    simpa using b
  rcases hd with ⟨rfl, _⟩ | ⟨_, hpos, hq, hs, hg⟩
  · have := hp.length_eq; simp at this
  · have hq2 := hp.symm.trans hq
    have hm : m = 3 := by
      have hmem : (3, 9) ∈ ids.map (fun i => (m, i)) ++ l' := hq2.mem_iff.1 (by simp)
      obtain ⟨x, t, rfl⟩ : ∃ x t, ids = x :: t := by cases ids with | nil => simp at hpos | cons x t => exact ⟨x, t, rfl⟩
      have hm2 : (m, x) ∈ [((5 : Int), (1 : Int)), (3, 9), (3, 2)] := hq2.mem_iff.2 (by simp)
      rcases List.mem_append.1 hmem with hmem | hmem
      · obtain ⟨i, _, e⟩ := List.mem_map.1 hmem
        exact congrArg Prod.fst e
      · have := hg _ hmem
        simp at hm2 this
        omega
    subst hm
    obtain ⟨p1, p2⟩ := due_part hq2 hg
    have e1 : ([((5 : Int), (1 : Int)), (3, 9), (3, 2)].filter (fun e => decide (e.1 = 3))).map (·.2) = [9, 2] := by decide
    have e2 : [((5 : Int), (1 : Int)), (3, 9), (3, 2)].filter (fun e => decide (3 < e.1)) = [(5, 1)] := by decide
    rw [e1] at p1
    rw [e2] at p2
    refine ⟨rising_eq hs (by decide) (p1.symm.trans (List.Perm.swap 2 9 [])), rfl, ?_⟩
    exact List.perm_singleton.1 p2.symm
end Go.Proofs.Ytonpbbflloljgaa
