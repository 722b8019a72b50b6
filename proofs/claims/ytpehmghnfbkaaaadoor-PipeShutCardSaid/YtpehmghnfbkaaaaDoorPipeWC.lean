/-
  The walks of slices.Clone at talks, and at rows of those that wait.
-/
import Derived.Test.YtpehmghnfbkaaaaDoorPipeAt
import Derived.Lib.SliceRun
import Derived.OwnWalk
namespace Go.Proofs.YtpehmghnfbkaaaaDoor
open Go.RowKit Go.Maps Pp

def cellsL (l : List Tk) : List Value := l.flatMap fun x => [.int .i64 x.what, .int .i64 x.chan, .int .i64 x.n]
theorem cellsL_cons (x : Tk) (l : List Tk) : cellsL (x :: l) = .int .i64 x.what :: .int .i64 x.chan :: .int .i64 x.n :: cellsL l := rfl
theorem cellsL_len (l : List Tk) : (cellsL l).length = l.length * 3 := by
  induction l with
  | nil => rfl
  | cons w r ih => rw [cellsL_cons, List.length_cons, List.length_cons, List.length_cons, ih, List.length_cons]; omega
theorem cellsL_get : ∀ (l : List Tk) (i : Nat) (x : Tk), l[i]? = some x → (cellsL l)[i * 3]? = some (.int .i64 x.what) ∧ (cellsL l)[i * 3 + 1]? = some (.int .i64 x.chan) ∧ (cellsL l)[i * 3 + 2]? = some (.int .i64 x.n) := by
  intro l
  induction l with
  | nil => intro i x h; cases h
  | cons p r ih =>
    intro i x h
    cases i with
    | zero => cases h; exact ⟨rfl, rfl, rfl⟩
    | succ i =>
      have := ih i x (by simpa using h)
      rw [cellsL_cons]
      refine ⟨?_, ?_, ?_⟩
      · rw [show (i + 1) * 3 = i * 3 + 1 + 1 + 1 by omega]; simpa using this.1
      · rw [show (i + 1) * 3 + 1 = i * 3 + 1 + 1 + 1 + 1 by omega]; simpa using this.2.1
      · rw [show (i + 1) * 3 + 2 = i * 3 + 2 + 1 + 1 + 1 by omega]; simpa using this.2.2
theorem get_cellsL : ∀ (l : List Tk) (j : Nat) (u : Value), (cellsL l)[j]? = some u → ∃ i x, l[i]? = some x ∧ ((j = i * 3 ∧ u = .int .i64 x.what) ∨ (j = i * 3 + 1 ∧ u = .int .i64 x.chan) ∨ (j = i * 3 + 2 ∧ u = .int .i64 x.n)) := by
  intro l
  induction l with
  | nil => intro j u h; simp [cellsL] at h
  | cons p r ih =>
    intro j u h
    rw [cellsL_cons] at h
    match j with
    | 0 => simp at h; exact ⟨0, p, rfl, Or.inl ⟨rfl, h.symm⟩⟩
    | 1 => simp at h; exact ⟨0, p, rfl, Or.inr (Or.inl ⟨rfl, h.symm⟩)⟩
    | 2 => simp at h; exact ⟨0, p, rfl, Or.inr (Or.inr ⟨rfl, h.symm⟩)⟩
    | j + 3 =>
      simp at h
      obtain ⟨i, x, h1, h2⟩ := ih j u h
      refine ⟨i + 1, x, by simpa using h1, ?_⟩
      rcases h2 with ⟨h3, h4⟩ | ⟨h3, h4⟩ | ⟨h3, h4⟩
      · exact Or.inl ⟨by omega, h4⟩
      · exact Or.inr (Or.inl ⟨by omega, h4⟩)
      · exact Or.inr (Or.inr ⟨by omega, h4⟩)
theorem addr_addP (b o j : Nat) : (⟨b, o, none⟩ : Addr).add j = ⟨b, o + j, none⟩ := by
  unfold Addr.add
  split <;> simp_all
/-- A row of talks of one's own is to be read. -/
theorem talks_of_own {w : World} {B : Nat} {v : Value} {l : List Tk} (h : w.ownsRow B 85 3 v l.length (cellsL l)) : TalksAt w v l := by
  have hc := h
  rcases h.2 with ⟨rfl, h0⟩ | ⟨g, cap, cur, rfl, hb, hg, h3, h4, h5, h6⟩
  · exact ⟨none, 0, 0, rfl, by omega, Nat.le_refl _, Nat.zero_le _, fun h => absurd h (Nat.lt_irrefl _)⟩
  · refine ⟨_, _, _, rfl, rfl, h3, h4, fun _ => ⟨g, 0, rfl, (Array.getElem?_eq_some_iff.1 hg).1, fun i x hx => ?_⟩⟩
    obtain ⟨e1, e2, e3⟩ := cellsL_get l i x hx
    have f1 := World.ownsRow.cells hc (g := g) rfl _ _ e1
    have f2 := World.ownsRow.cells hc (g := g) rfl _ _ e2
    have f3 := World.ownsRow.cells hc (g := g) rfl _ _ e3
    rw [addr_addP] at f1 f2 f3
    exact ⟨f1, by rw [Nat.add_assoc]; exact f2, by rw [Nat.add_assoc]; exact f3⟩
theorem info_talk : (Tryd.prog.info? 85).map (fun i => (i.zero, i.size, i.bytes)) = some (some (.agg #[.int .i64 0, .int .i64 0, .int .i64 0]), 3, 24) := by kernel_rfl
theorem info_wait : (Tryd.prog.info? 90).map (fun i => (i.zero, i.size, i.bytes)) = some (some (.agg #[.int .i64 0, .int .i64 0]), 2, 16) := by kernel_rfl
theorem tinfoP {i : Option TypeInfo} {z : Value} {n m : Nat} (h : i.map (fun i => (i.zero, i.size, i.bytes)) = some (some z, n, m)) : ∃ i0, i = some i0 ∧ i0.zero = some z ∧ i0.size = n ∧ i0.bytes = m := by
  cases i with
  | none => cases h
  | some i0 =>
    simp at h
    exact ⟨i0, rfl, h.1, h.2.1, h.2.2⟩

set_option maxRecDepth 100000 in
set_option maxHeartbeats 1600000 in
theorem cloneT_any (w : World) {v : Value} {l : List Tk} (hl : TalksAt w v l) (h6 : l.length ≤ 1000000) :
    Calls Tryd.prog 49 #[v] w fun e w' => ∃ u, e = .returned u ∧ w'.ownsRow w.heap.size 85 3 u l.length (cellsL l) ∧ Below w.heap.size w w' := by
  obtain ⟨ao, n, cap, rfl, hn, h1, h2, h3⟩ := hl
  obtain ⟨i0, hi, hz0, hz1, hz2⟩ := tinfoP info_talk
  cases ao with
  | none =>
    have hl0 : l = [] := by
      rcases Nat.eq_zero_or_pos n with h0 | h0
      · exact List.eq_nil_of_length_eq_zero (by omega)
      · obtain ⟨b, o, e, _⟩ := h3 h0; cases e
    subst hl0
    have heq := Lib.run_eql_slice_nil (P := Tryd.prog) w 32 85 none n cap 0 0 Tryd.underlying32
    rw [Option.isNone_none] at heq
    clear h3 hn
    go_enter Tryd.func49, Tryd.ntmps49
    go_wp2_with fail
    go_ret
    exact ⟨_, rfl, World.ownsRow_nil _ _ _ _, Below.refl _ _⟩
  | some ad =>
    have hcell : ∀ j u, (cellsL l)[j]? = some u → w.cell? (ad.add j) = some u := fun j u hu => by
      obtain ⟨i, x, e1, e2⟩ := get_cellsL l j u hu
      have hi2 := (List.getElem?_eq_some_iff.1 e1).1
      obtain ⟨b, o, e3, _, e4⟩ := h3 (by omega)
      cases e3
      obtain ⟨f1, f2, f3⟩ := e4 i x e1
      rw [addr_addP]
      rcases e2 with ⟨rfl, rfl⟩ | ⟨rfl, rfl⟩ | ⟨rfl, rfl⟩
      · exact f1
      · rw [← Nat.add_assoc]; exact f2
      · rw [← Nat.add_assoc]; exact f3
    have h1c : ∀ u ∈ cellsL l, u.oneCell' = true := fun u hu => by
      obtain ⟨j, hj⟩ := List.mem_iff_getElem?.1 hu
      obtain ⟨i, x, _, e2⟩ := get_cellsL l j u hj
      rcases e2 with ⟨_, rfl⟩ | ⟨_, rfl⟩ | ⟨_, rfl⟩ <;> rfl
    have HC := Lib.hid hcell
    have HL := Lib.hid (cellsL_len l)
    clear hcell h3
    subst hn
    have heq := Lib.run_eql_slice_nil (P := Tryd.prog) w 32 85 (some ad) l.length cap 0 0 Tryd.underlying32
    rw [Option.isNone_some] at heq
    go_enter Tryd.func49, Tryd.ntmps49
    have HOWN : Hid ((w.alloc (.cells #[] 85)).ownsRow w.heap.size 85 3 (.slice (some ⟨w.heap.size, 0, none⟩) 0 0) 0 []) := Lib.hid ⟨rfl, Or.inr ⟨w.heap.size, 0, #[], rfl, Nat.le_refl _, by show (w.heap.push _)[w.heap.size]? = _; simp, Nat.le_refl _, Nat.zero_le _, rfl, rfl⟩⟩
    have HCA : Hid (∀ j u, (cellsL l)[j]? = some u → (w.alloc (.cells #[] 85)).cell? (ad.add j) = some u) := Lib.hid fun j u hu => by
      exact Go.Lib.cell?_alloc_some _ (HC.out j u hu)
    go_wp2_with (at_builtin; refine wpList_append_own _ rfl _ _ 32 rfl w.heap.size 85 i0 (.agg #[.int .i64 0, .int .i64 0, .int .i64 0]) 3 24 Tryd.underlying32 hi hz0 hz1 hz2 rfl (by decide) _ 0 [] rfl HOWN.out ad l.length cap (cellsL l) rfl HL.out HCA.out h1c (by unfold maxLen; omega) (by omega) (by simp) ?_)
    intro v' w' ho' hg' _
    have HO := Lib.hid ho'
    have HG := Lib.hid hg'
    clear ho' hg'
    go_wp2_with fail
    go_ret
    refine ⟨_, rfl, ?_, ?_⟩
    · exact HO.out
    · exact ((Below.refl w.heap.size w).alloc (Nat.le_refl _) _).trans ((Keeps.of_grownBy (S := fun g => g = w.heap.size) HG.out fun g _ e => by cases e; rfl).below (by simp) fun g _ e => by omega)

theorem cellsW_one (r : List (Int × Nat)) : ∀ u ∈ cellsW r, u.oneCell' = true := by
  induction r with
  | nil => intro u hu; simp [cellsW] at hu
  | cons p r ih =>
    intro u hu
    have e : cellsW (p :: r) = .int .i64 p.1 :: .int .i64 (p.2 : Int) :: cellsW r := rfl
    rw [e] at hu
    rcases List.mem_cons.1 hu with rfl | hu
    · rfl
    · rcases List.mem_cons.1 hu with rfl | hu
      · rfl
      · exact ih u hu
set_option maxRecDepth 100000 in
set_option maxHeartbeats 1600000 in
theorem cloneW_any (w : World) {v : Value} {r : List (Int × Nat)} (hl : RowW w v r) (h6 : r.length ≤ 1000000000) :
    Calls Tryd.prog 55 #[v] w fun e w' => ∃ u, e = .returned u ∧ w'.ownsRow w.heap.size 90 2 u r.length (cellsW r) ∧ Below w.heap.size w w' := by
  obtain ⟨i0, hi, hz0, hz1, hz2⟩ := tinfoP info_wait
  have hc := hl
  rcases hl.2 with ⟨rfl, h0⟩ | ⟨g, cap, cur, rfl, hb, hg, h3, h4, h5, h6'⟩
  · obtain rfl : r = [] := List.eq_nil_of_length_eq_zero h0
    have heq := Lib.run_eql_slice_nil (P := Tryd.prog) w 77 90 none 0 0 0 0 Tryd.underlying77
    rw [Option.isNone_none] at heq
    clear hl hc h0
    go_enter Tryd.func55, Tryd.ntmps55
    go_wp2_with fail
    go_ret
    exact ⟨_, rfl, World.ownsRow_nil _ _ _ _, Below.refl _ _⟩
  · obtain ⟨ad, had⟩ : ∃ ad : Addr, ad = ⟨g, 0, none⟩ := ⟨_, rfl⟩
    have HC : Hid (∀ j u, (cellsW r)[j]? = some u → w.cell? (ad.add j) = some u) := Lib.hid fun j u hu => by rw [had]; exact World.ownsRow.cells hc (g := g) rfl j u hu
    have HL := Lib.hid (cellsW_len r)
    have h1c := cellsW_one r
    rw [← had]
    have heq := Lib.run_eql_slice_nil (P := Tryd.prog) w 77 90 (some ad) r.length cap 0 0 Tryd.underlying77
    rw [Option.isNone_some] at heq
    clear hl hc had h5 h6'
    have HOWN : Hid ((w.alloc (.cells #[] 90)).ownsRow w.heap.size 90 2 (.slice (some ⟨w.heap.size, 0, none⟩) 0 0) 0 []) := Lib.hid ⟨rfl, Or.inr ⟨w.heap.size, 0, #[], rfl, Nat.le_refl _, by show (w.heap.push _)[w.heap.size]? = _; simp, Nat.le_refl _, Nat.zero_le _, rfl, rfl⟩⟩
    have HCA : Hid (∀ j u, (cellsW r)[j]? = some u → (w.alloc (.cells #[] 90)).cell? (ad.add j) = some u) := Lib.hid fun j u hu => by
      exact Go.Lib.cell?_alloc_some _ (HC.out j u hu)
    go_enter Tryd.func55, Tryd.ntmps55
    go_wp2_with (at_builtin; refine wpList_append_own _ rfl _ _ 77 rfl w.heap.size 90 i0 (.agg #[.int .i64 0, .int .i64 0]) 2 16 Tryd.underlying77 hi hz0 hz1 hz2 rfl (by decide) _ 0 [] rfl HOWN.out ad r.length cap (cellsW r) rfl HL.out HCA.out h1c (by unfold maxLen; omega) (by omega) (by simp) ?_)
    intro v' w' ho' hg' _
    have HO := Lib.hid ho'
    have HG := Lib.hid hg'
    clear ho' hg'
    go_wp2_with fail
    go_ret
    refine ⟨_, rfl, ?_, ?_⟩
    · exact HO.out
    · exact ((Below.refl w.heap.size w).alloc (Nat.le_refl _) _).trans ((Keeps.of_grownBy (S := fun g => g = w.heap.size) HG.out fun g _ e => by cases e; rfl).below (by simp) fun g _ e => by omega)
end Go.Proofs.YtpehmghnfbkaaaaDoor
