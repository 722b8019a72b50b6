/-
  The law ClockSorts: its mathematics; the sort of its ids in one word.
-/
import Derived.Test.YtonpbbflloljgaaStable
import Derived.Test.YtonpbbflloljgaaOwnI
import Derived.Test.YtonpbbflloljgaaClockFact
import Derived.Test.YtonpbbflloljgaaEqualI
namespace Go.Proofs.Ytonpbbflloljgaa
open Go.RowKit

/-- x comes ahead of y: by its key, and, of one key, by itself. -/
def RI (key : Int → Int) (x y : Int) : Prop := key x < key y ∨ (key x = key y ∧ x < y)
theorem RI.asymm {key : Int → Int} {x y : Int} (h : RI key x y) : ¬ RI key y x := by unfold RI at *; omega
theorem sorted_unique {α : Type} {R : α → α → Prop} (asy : ∀ x y, R x y → ¬ R y x) : ∀ (a b : List α), a.Pairwise R → b.Pairwise R → (∀ x, x ∈ a ↔ x ∈ b) → a = b
  | [], [], _, _, _ => rfl
  | [], y :: _, _, _, h => absurd ((h y).2 (List.mem_cons_self ..)) (by simp)
  | x :: _, [], _, _, h => absurd ((h x).1 (List.mem_cons_self ..)) (by simp)
  | x :: a, y :: b, ha, hb, h => by
    rw [List.pairwise_cons] at ha hb
    have e : x = y := by
      rcases List.mem_cons.1 ((h x).1 (List.mem_cons_self ..)) with e | e
      · exact e
      · rcases List.mem_cons.1 ((h y).2 (List.mem_cons_self ..)) with e' | e'
        · exact e'.symm
        · exact absurd (ha.1 y e') (asy _ _ (hb.1 x e))
    subst e
    congr 1
    refine sorted_unique asy a b ha.2 hb.2 fun z => ⟨fun hz => ?_, fun hz => ?_⟩
    · rcases List.mem_cons.1 ((h z).1 (List.mem_cons_of_mem _ hz)) with e | e
      · subst e; exact absurd (ha.1 z hz) (fun q => asy _ _ q q)
      · exact e
    · rcases List.mem_cons.1 ((h z).2 (List.mem_cons_of_mem _ hz)) with e | e
      · subst e; exact absurd (hb.1 z hz) (fun q => asy _ _ q q)
      · exact e

/-- The ids below k that have a time. -/
def idsN (l : List Int) (k : Nat) : List Nat := (List.range k).filter fun i => decide (0 ≤ l.getD i 0)
def entsN (l : List Int) (k : Nat) : List Hp.E := (idsN l k).map fun i => (l.getD i 0, (i : Int))
def keyI (l : List Int) (x : Int) : Int := l.getD x.toNat 0
theorem idsN_yes (l : List Int) (k : Nat) (h : 0 ≤ l.getD k 0) : idsN l (k + 1) = idsN l k ++ [k] := by
  unfold idsN; rw [List.range_succ, List.filter_append, List.filter_cons_of_pos (by simpa using h)]; rfl
theorem idsN_no (l : List Int) (k : Nat) (h : ¬ 0 ≤ l.getD k 0) : idsN l (k + 1) = idsN l k := by
  unfold idsN; rw [List.range_succ, List.filter_append, List.filter_cons_of_neg (by simpa using h)]; simp
theorem idsN_lt (l : List Int) (k : Nat) : ∀ i ∈ idsN l k, i < k := fun _ hi => List.mem_range.1 (List.mem_filter.1 hi).1
theorem idsN_pos (l : List Int) (k : Nat) : ∀ i ∈ idsN l k, 0 ≤ l.getD i 0 := fun _ hi => by simpa using (List.mem_filter.1 hi).2
theorem idsN_rise (l : List Int) (k : Nat) : (idsN l k).Pairwise (· < ·) := List.Pairwise.filter _ List.pairwise_lt_range
theorem idsN_len (l : List Int) (k : Nat) : (idsN l k).length ≤ k := by
  have := List.length_filter_le (fun i => decide (0 ≤ l.getD i 0)) (List.range k)
  rw [List.length_range] at this; exact this
theorem entsN_mem {l : List Int} {k : Nat} {e : Hp.E} (h : e ∈ entsN l k) : ∃ i : Nat, i < k ∧ i ∈ idsN l k ∧ e = (l.getD i 0, (i : Int)) := by
  obtain ⟨i, hi, rfl⟩ := List.mem_map.1 h
  exact ⟨i, idsN_lt l k i hi, hi, rfl⟩
theorem entsN_not {l : List Int} {k : Nat} {le : List Hp.E} (h : le.Perm (entsN l k)) : ¬ IdIn le (k : Int) :=
  notIn_of h fun e he q => by
    obtain ⟨i, hi, _, rfl⟩ := entsN_mem he
    have : ((i : Nat) : Int) = (k : Int) := q
    omega

/-- What came so far, and what is to come. -/
structure GotR (l : List Int) (le : List Hp.E) (got : List Int) : Prop where
  perm : (entsN l l.length).Perm (got.map (fun i => (keyI l i, i)) ++ le)
  srt : got.Pairwise (RI (keyI l))
  ahead : ∀ x ∈ got, ∀ e ∈ le, keyI l x < e.1
theorem GotR.key {l : List Int} {le : List Hp.E} {got : List Int} (h : GotR l le got) {e : Hp.E} (he : e ∈ le) : ∃ i : Nat, i < l.length ∧ e = (l.getD i 0, (i : Int)) ∧ keyI l e.2 = e.1 := by
  obtain ⟨i, hi, _, rfl⟩ := entsN_mem (h.perm.mem_iff.2 (List.mem_append_right _ he))
  exact ⟨i, hi, rfl, by unfold keyI; simp⟩
theorem GotR.due {l : List Int} {le l' : List Hp.E} {got ids : List Int} {now m : Int} (h : GotR l le got) (hr : DueR now le ids m l') : GotR l l' (got ++ ids) ∧ (∀ y ∈ ids, ∃ i : Nat, y = (i : Int) ∧ i < l.length ∧ l.getD i 0 = m) ∧ (le.length ≤ l'.length + ids.length ∧ (0 < le.length → l'.length < le.length) ∧ (le.length = 0 → l'.length = 0)) := by
  rcases hr with ⟨rfl, rfl, rfl, rfl⟩ | ⟨_, hpos, hp, hs, hg⟩
  · exact ⟨by rw [List.append_nil]; exact h, (fun y hy => by cases hy), by simp⟩
  · have hm : ∀ y ∈ ids, (m, y) ∈ le := fun y hy => hp.mem_iff.2 (List.mem_append_left _ (List.mem_map.2 ⟨y, hy, rfl⟩))
    have hk : ∀ y ∈ ids, keyI l y = m := fun y hy => by
      obtain ⟨_, _, _, e⟩ := h.key (hm y hy); exact e
    have e1 : ids.map (fun i => (m, i)) = ids.map (fun i => (keyI l i, i)) := List.map_congr_left fun y hy => by rw [hk y hy]
    have hlen := hp.length_eq
    rw [List.length_append, List.length_map] at hlen
    refine ⟨⟨?_, ?_, ?_⟩, fun y hy => ?_, by omega, fun _ => by omega, fun q => by omega⟩
    · rw [List.map_append, List.append_assoc]
      refine h.perm.trans (List.Perm.append_left _ ?_)
      rw [← e1]; exact hp
    · refine List.pairwise_append.2 ⟨h.srt, ?_, fun x hx y hy => Or.inl (by rw [hk y hy]; exact h.ahead x hx _ (hm y hy))⟩
      exact List.Pairwise.imp_of_mem (fun {x y} hx hy q => Or.inr ⟨by rw [hk x hx, hk y hy], q⟩) hs
    · intro x hx e he
      rcases List.mem_append.1 hx with hx | hx
      · exact h.ahead x hx e (hp.mem_iff.2 (List.mem_append_right _ he))
      · rw [hk x hx]; exact hg e he
    · obtain ⟨i, hi, e, _⟩ := h.key (hm y hy)
      exact ⟨i, congrArg Prod.snd e, hi, (congrArg Prod.fst e).symm⟩
theorem GotR.start {l : List Int} {le : List Hp.E} (h : le.Perm (entsN l l.length)) : GotR l le [] :=
  ⟨by simpa using h.symm, List.Pairwise.nil, (fun x hx => by cases hx)⟩
/-- All that came is all that has a time: in order it is the sorted list. -/
theorem GotR.done {l : List Int} {got xs : List Int} (h : GotR l [] got) (hx : xs.Pairwise (RI (keyI l))) (hm : ∀ x : Int, x ∈ xs ↔ ∃ i ∈ idsN l l.length, x = (i : Int)) : got = xs := by
  refine sorted_unique (fun _ _ => RI.asymm) got xs h.srt hx fun x => ?_
  rw [hm]
  have hp := h.perm
  rw [List.append_nil] at hp
  constructor
  · intro hx
    obtain ⟨i, hi, e⟩ := List.mem_map.1 (hp.mem_iff.2 (List.mem_map.2 ⟨x, hx, rfl⟩))
    exact ⟨i, hi, (congrArg Prod.snd e).symm⟩
  · rintro ⟨i, hi, rfl⟩
    obtain ⟨y, hy, e⟩ := List.mem_map.1 (hp.mem_iff.1 (List.mem_map.2 ⟨i, hi, rfl⟩))
    have : y = (i : Int) := congrArg Prod.snd e
    rw [← this]; exact hy

/-! The sort of nothing. -/
theorem insertion_nil (ao : Option Addr) (cp : Nat) (vc : Value) (w : World) : Calls Try.prog 36 #[.slice ao 0 cp, .int .i64 0, .int .i64 0, vc] w fun e w' => e = .returned (.tuple #[]) ∧ w = w' := by
  go_enter Try.func36, Try.ntmps36
  go_wp2_with fail
  go_loop [8] (fun s => s = .int .i64 1) (fun _ => 0)
  case atStart => exact rfl
  case round =>
    subst hrel
    go_wp2_with fail
    go_end0
    exact ⟨rfl, rfl⟩
theorem stable_nil (ao : Option Addr) (cp : Nat) (vc : Value) (w : World) : Calls Try.prog 21 #[.slice ao 0 cp, .int .i64 0, vc] w fun e w' => e = .returned (.tuple #[]) ∧ w = w' := by
  go_enter Try.func21, Try.ntmps21
  go_wp2_with fail
  go_loop [7, 8] (fun p x => p = .int .i64 0 ∧ x = .int .i64 20) (fun _ _ => 0)
  case atStart => exact ⟨rfl, rfl⟩
  case round =>
    obtain ⟨rfl, rfl⟩ := hrel
    go_wp2_with fail
    refine (insertion_nil _ _ _ _).mono ?_
    rintro e w1 ⟨rfl, rfl⟩
    go_wp2_with fail
    go_loop [6] (fun p => p = .int .i64 20) (fun _ => 0)
    case atStart => exact rfl
    case round =>
      subst hrel
      go_wp2_with fail
      go_end0
      exact ⟨rfl, rfl⟩
theorem sortStable_nil (ao : Option Addr) (cp : Nat) (vc : Value) (w : World) : Calls Try.prog 8 #[.slice ao 0 cp, vc] w fun e w' => e = .returned (.tuple #[]) ∧ w = w' := by
  go_enter Try.func8, Try.ntmps8
  go_wp2_with fail
  refine (stable_nil _ _ _ _).mono ?_
  rintro e w1 ⟨rfl, rfl⟩
  go_wp2_with fail
  go_end0
  exact ⟨rfl, rfl⟩
end Go.Proofs.Ytonpbbflloljgaa
