/-
  The program's clock beside the reference's: what each of the law's steps comes to.
-/
import Derived.Test.YthdckapgpibmiaaDoorRefDue
import Derived.Test.YthdckapgpibmiaaDoorTell
namespace Go.Proofs.YthdckapgpibmiaaDoor
open Go.RowKit Go.Maps

set_option maxRecDepth 100000 in
set_option maxHeartbeats 1600000 in
theorem sameInts_any (v u : Value) (l : List Int) (w : World) (hv : IntsAt w v l) (hu : IntsAt w u l) :
    Calls Tryd.prog 23 #[v, u] w fun e w' => e = .returned (.bool true) ∧ ∃ n, w' = w.drewN n := by
  obtain ⟨ao, n, cap, rfl, hn, hnc, hcm, hx⟩ := hv
  obtain ⟨ao2, n2, cap2, rfl, hn2, hnc2, hcm2, hx2⟩ := hu
  obtain rfl : n2 = n := by omega
  unfold maxLen at hcm hcm2
  have HX := Lib.hid hx
  have HX2 := Lib.hid hx2
  clear hx hx2 hn hn2
  go_enter Tryd.func23, Tryd.ntmps23
  go_wp2_with fail
  go_loopw [5] (fun i wr => ∃ (k m : Nat), k ≤ n2 ∧ i = .int .i64 k ∧ wr = w.drewN m) (fun i _ => n2 - (intOf i).toNat)
  case atStart => exact ⟨0, 0, Nat.zero_le _, rfl, rfl⟩
  case round =>
    obtain ⟨k, m, hk, rfl, rfl⟩ := hrel
    by_cases hkn : k < n2
    · obtain ⟨b, o, rfl, hbl, hcell⟩ := HX.out (by omega)
      obtain ⟨b2, o2, rfl, hbl2, hcell2⟩ := HX2.out (by omega)
      have hc1 := hcell k hkn
      have hd1 := hcell2 k hkn
      have hi1 : (0 : Int) ≤ (k : Int) ∧ (k : Int) < (n2 : Int) := by omega
      have hi2 : (k : Int) < (n2 : Int) := by omega
      clear hcell hcell2
      generalize l.getD k 0 = x at *
      go_wp2_with fail
      go_quiet (fail)
      go_wp2_with fail
      go_roundw
      case rel => exact ⟨k + 1, _, by omega, by go_num, rfl⟩
      case measure => simp [intOf]; omega
    · obtain rfl : k = n2 := by omega
      go_wp2_with fail
      go_ret
      exact ⟨rfl, _, rfl⟩

theorem keeps_drewN0 (w : World) (n : Nat) : Keeps (fun _ => False) w (w.drewN n) := ⟨rfl, rfl, rfl, Nat.le_refl _, fun _ _ _ => rfl⟩
theorem nof : ¬ False := fun e => e
/-- What the law looks at in each round: a number, a time, an id. -/
structure XBox (W : World) (bx : Nat) (t id : Int) : Prop where
  x1 : W.cell? ⟨bx, 1, none⟩ = some (.int .i64 t)
  x2 : W.cell? ⟨bx, 2, none⟩ = some (.int .i64 id)
theorem XBox.keeps {S : Nat → Prop} {w w' : World} {bx : Nat} {t id : Int} (h : XBox w bx t id) (hk : Keeps S w w') (hn : ¬ S bx) : XBox w' bx t id := ⟨hk.cell_of h.x1 hn, hk.cell_of h.x2 hn⟩
/-- Both clocks, the same. -/
structure ClkJ (w W : World) (cb : Nat) (F : Nat → Prop) (rb mb : Nat) (now : Int) (D : DataW Unit) (l : List Hp.E) (k : Nat) : Prop where
  c : ClockAt W cb F now l
  r : RefC W rb mb now D l
  nr : ¬ F rb
  nm : ¬ F mb
  lo : ∀ b, F b → w.heap.size ≤ b
  lor : w.heap.size ≤ rb
  lom : w.heap.size ≤ mb
  bel : Below w.heap.size w W
  len : l.length ≤ k
  err : ErrT W
  elo : 0 < w.heap.size
theorem ClkJ.fresh {w W W' : World} {cb : Nat} {F : Nat → Prop} {rb mb : Nat} {now : Int} {D : DataW Unit} {l : List Hp.E} {k : Nat} (h : ClkJ w W cb F rb mb now D l k) (hk : Keeps (fun _ => False) W W') : ClkJ w W' cb F rb mb now D l k :=
  ⟨h.c.keeps hk fun _ _ => nof, h.r.keeps hk nof nof, h.nr, h.nm, h.lo, h.lor, h.lom, h.bel.trans (hk.below h.bel.size fun _ _ e => e.elim), h.len, hk.cell_of h.err nof, h.elo⟩
theorem ClkJ.more {w W : World} {cb : Nat} {F : Nat → Prop} {rb mb : Nat} {now : Int} {D : DataW Unit} {l : List Hp.E} {k j : Nat} (h : ClkJ w W cb F rb mb now D l k) (hj : k ≤ j) : ClkJ w W cb F rb mb now D l j :=
  ⟨h.c, h.r, h.nr, h.nm, h.lo, h.lor, h.lom, h.bel, Nat.le_trans h.len hj, h.err, h.elo⟩
/-- An error, and its number. -/
def ErrIs (r : Value) (n : Int) : Prop := (r = .nilIface ∧ n = 0) ∨ r = .iface 29 (.int .i64 n)
/-- Behind the program's Set. -/
structure SetMid (w W : World) (cb rb mb bx : Nat) (now : Int) (l : List Hp.E) (k : Nat) (t id : Int) (r : Value) : Prop where
  x : XBox W bx t id
  ex : ∃ (F' : Nat → Prop) (D : DataW Unit) (l' : List Hp.E), ClockAt W cb F' now l' ∧ RefC W rb mb now D l ∧ ¬ F' rb ∧ ¬ F' mb ∧ ¬ F' bx ∧ (∀ b, F' b → w.heap.size ≤ b) ∧ w.heap.size ≤ rb ∧ w.heap.size ≤ mb ∧ Below w.heap.size w W ∧ l.length ≤ k ∧ ErrT W ∧ 0 < w.heap.size ∧ SetR now l t id r l' ∧ bx ≠ mb ∧ bx ≠ rb
/-- Behind the reference's. -/
structure SetEnd (w W : World) (cb rb mb bx : Nat) (now : Int) (k : Nat) (t id : Int) (r : Value) (n : Int) : Prop where
  x : XBox W bx t id
  e : ErrIs r n
  j : ∃ (F' : Nat → Prop) (D' : DataW Unit) (l' : List Hp.E), ClkJ w W cb F' rb mb now D' l' (k + 1) ∧ ¬ F' bx
theorem SetMid.drew {w W : World} {cb rb mb bx : Nat} {now : Int} {l : List Hp.E} {k : Nat} {t id : Int} {r : Value} (h : SetMid w W cb rb mb bx now l k t id r) : SetMid w W.drew cb rb mb bx now l k t id r := by
  have hk : Keeps (fun _ => False) W W.drew := (Keeps.refl _ _).drew
  obtain ⟨F', D, l', h1, h2, h3, h4, h5, h6, h7, h8, h9, h10, h11, h12⟩ := h.ex
  exact ⟨h.x.keeps hk nof, F', D, l', h1.keeps hk fun _ _ => nof, h2.keeps hk nof nof, h3, h4, h5, h6, h7, h8, h9.trans (hk.below h9.size fun _ _ e => e.elim), h10, hk.cell_of h11 nof, h12⟩
theorem SetEnd.drew {w W : World} {cb rb mb bx : Nat} {now : Int} {k : Nat} {t id : Int} {r : Value} {n : Int} (h : SetEnd w W cb rb mb bx now k t id r n) : SetEnd w W.drew cb rb mb bx now k t id r n := by
  have hk : Keeps (fun _ => False) W W.drew := (Keeps.refl _ _).drew
  obtain ⟨F', D', l', h1, h2⟩ := h.j
  exact ⟨h.x.keeps hk nof, h.e, F', D', l', h1.fresh hk, h2⟩
/-- All that the round has at hand. -/
structure ClkX (w W : World) (cb : Nat) (F : Nat → Prop) (rb mb bx : Nat) (now : Int) (D : DataW Unit) (l : List Hp.E) (k : Nat) (t id : Int) : Prop where
  j : ClkJ w W cb F rb mb now D l k
  x : XBox W bx t id
  nf : ¬ F bx
  nr : bx ≠ rb
  nm : bx ≠ mb
theorem ClkX.fresh {w W W' : World} {cb : Nat} {F : Nat → Prop} {rb mb bx : Nat} {now : Int} {D : DataW Unit} {l : List Hp.E} {k : Nat} {t id : Int} (h : ClkX w W cb F rb mb bx now D l k t id) (hk : Keeps (fun _ => False) W W') : ClkX w W' cb F rb mb bx now D l k t id :=
  ⟨h.j.fresh hk, h.x.keeps hk nof, h.nf, h.nr, h.nm⟩
theorem ClkX.drew {w W : World} {cb : Nat} {F : Nat → Prop} {rb mb bx : Nat} {now : Int} {D : DataW Unit} {l : List Hp.E} {k : Nat} {t id : Int} (h : ClkX w W cb F rb mb bx now D l k t id) : ClkX w W.drew cb F rb mb bx now D l k t id := h.fresh (Keeps.refl _ _).drew
theorem ClkX.set1 {w W : World} {cb : Nat} {F : Nat → Prop} {rb mb bx : Nat} {now : Int} {D : DataW Unit} {l : List Hp.E} {k : Nat} {t id : Int} (h : ClkX w W cb F rb mb bx now D l k t id) (hw : (Lit.int .i64 id).wf = true) (hk : k < 1000) :
    Calls Tryd.prog 21 #[.pointer (some ⟨cb, 0, none⟩), .int .i64 t, .int .i64 id] W fun e w' => ∃ r, e = .returned r ∧ SetMid w w' cb rb mb bx now l k t id r := by
  obtain ⟨j, x, nf, nr, nm⟩ := h
  refine (cset_any W j.c t id hw (Nat.lt_of_le_of_lt j.len hk)).mono ?_
  rintro e w' ⟨r, F', l', rfl, hc, hg, hkp, hs⟩
  have far : ∀ b, b < W.heap.size → ¬ F b → ¬ F' b := fun b hb hn e => (hg b e).elim hn fun e => by omega
  have hbx := block_lt_of_cell x.x1
  exact ⟨r, rfl, x.keeps hkp nf, F', D, l', hc, j.r.keeps hkp j.nr j.nm, far _ j.r.lt j.nr, far _ j.r.map.lt j.nm, far _ hbx nf, fun b hb => (hg b hb).elim (j.lo b) fun e => Nat.le_trans j.bel.size e, j.lor, j.lom,
    j.bel.trans (hkp.below j.bel.size fun b _ e => j.lo b e), j.len, hkp.cell_of j.err (show ¬ F 0 from fun e => by have := j.lo _ e; have := j.elo; omega), j.elo, hs, nm, nr⟩
theorem SetMid.set2 {w W : World} {cb rb mb bx : Nat} {now : Int} {l : List Hp.E} {k : Nat} {t id : Int} {r : Value} (h : SetMid w W cb rb mb bx now l k t id r) (ht : (Lit.int .i64 t).wf = true) (hw : (Lit.int .i64 id).wf = true) (hk : k < 1000) :
    Calls Tryd.prog 22 #[.pointer (some ⟨rb, 0, none⟩), .int .i64 t, .int .i64 id] W fun e w' => ∃ n, e = .returned (.int .i64 n) ∧ SetEnd w w' cb rb mb bx now k t id r n := by
  obtain ⟨F', D, l', h1, h2, h3, h4, h5, h6, h7, h8, h9, h10, h11, h12, h13, h14, h15⟩ := h.ex
  refine (refSet_any W h2 t id ht hw (Nat.lt_of_le_of_lt h10 hk)).mono ?_
  rintro e w' ⟨n, D', q', rfl, hr, hkp, hs⟩
  have hfm : ∀ b, F' b → ¬ b = mb := fun b hb e => h4 (e ▸ hb)
  have hc := h1.keeps hkp hfm
  have key : ErrIs r n ∧ q'.Perm l' := by
    rcases h13 with ⟨a1, rfl, rfl⟩ | ⟨a1, a2, rfl, rfl⟩ | ⟨a1, a2, rfl, a3⟩
    · rcases hs with ⟨_, rfl, rfl⟩ | ⟨b1, _⟩ | ⟨b1, _⟩
      · exact ⟨Or.inr rfl, List.Perm.refl _⟩
      · omega
      · omega
    · rcases hs with ⟨b1, _⟩ | ⟨_, _, rfl, rfl⟩ | ⟨_, b2, _⟩
      · omega
      · exact ⟨Or.inr rfl, List.Perm.refl _⟩
      · exact absurd a2 b2
    · rcases hs with ⟨b1, _⟩ | ⟨_, b2, _⟩ | ⟨_, _, rfl, rfl⟩
      · omega
      · exact absurd b2 a2
      · exact ⟨Or.inl ⟨rfl, rfl⟩, a3.symm⟩
  have hlen : l'.length ≤ k + 1 := by
    rcases h13 with ⟨_, _, rfl⟩ | ⟨_, _, _, rfl⟩ | ⟨_, _, _, a3⟩
    · omega
    · omega
    · rw [a3.length_eq, List.length_append]; simp; omega
  exact ⟨n, rfl, h.x.keeps hkp h14, key.1, F', D', l', ⟨hc, hr.perm key.2, h3, h4, h6, h7, h8, h9.trans (hkp.below h9.size fun b _ e => by omega), hlen, hkp.cell_of h11 (show ¬ (0 = mb) by omega), h12⟩, h5⟩
theorem SetEnd.set3 {w W : World} {cb rb mb bx : Nat} {now : Int} {k : Nat} {t id : Int} {r : Value} {n : Int} (h : SetEnd w W cb rb mb bx now k t id r n) :
    Calls Tryd.prog 7 #[r, .int .i64 n] W fun e w' => e = .returned (.bool true) ∧ SetEnd w w' cb rb mb bx now k t id r n := by
  obtain ⟨F', D', l', hj, hn⟩ := h.j
  rcases h.e with ⟨rfl, rfl⟩ | rfl
  · refine (bare_nil W).mono ?_
    rintro e w' ⟨rfl, rfl⟩
    exact ⟨rfl, h⟩
  · refine (bare_errno n W hj.err).mono ?_
    rintro e w' ⟨rfl, hb⟩
    have hk : Keeps (fun _ => False) W w' := Keeps.of_new hb
    exact ⟨rfl, h.x.keeps hk nof, h.e, F', D', l', hj.fresh hk, hn⟩
/-- Those that are due are the same. -/
theorem due_same {now m m2 : Int} {l l1 l2 : List Hp.E} {ids ids2 : List Int} (h1 : DueR now l ids m l1)
    (h2 : (l = [] ∧ ids2 = [] ∧ m2 = now ∧ l2 = []) ∨ ((∃ e ∈ l, e.1 = m2) ∧ (∀ e ∈ l, m2 ≤ e.1) ∧ ids2.Pairwise (· < ·) ∧ (∀ id, id ∈ ids2 ↔ (m2, id) ∈ l) ∧ l2 = l.filter fun e => decide (m2 < e.1))) :
    m2 = m ∧ ids2 = ids ∧ l2.Perm l1 ∧ l1.length ≤ l.length := by
  rcases h1 with ⟨rfl, rfl, rfl, rfl⟩ | ⟨a1, a2, a3, a4, a5⟩
  · rcases h2 with ⟨_, rfl, rfl, rfl⟩ | ⟨⟨e, he, _⟩, _⟩
    · exact ⟨rfl, rfl, List.Perm.refl _, Nat.le_refl _⟩
    · cases he
  · rcases h2 with ⟨rfl, _⟩ | ⟨⟨e, he, hm⟩, b2, b3, b4, rfl⟩
    · have := a3.length_eq
      simp at this
      omega
    · have hin : ∀ id, id ∈ ids → (m, id) ∈ l := fun id hid => a3.mem_iff.2 (List.mem_append_left _ (List.mem_map.2 ⟨id, hid, rfl⟩))
      have hmm : m2 = m := by
        have h3 : m ≤ m2 := by
          rcases List.mem_append.1 (a3.mem_iff.1 he) with h3 | h3
          · obtain ⟨id, _, rfl⟩ := List.mem_map.1 h3
            omega
          · have := a5 e h3; omega
        cases ids with
        | nil => simp at a2
        | cons i r =>
          have := b2 _ (hin i (by simp))
          simp at this
          omega
      subst hmm
      refine ⟨rfl, ?_, (due_part a3 a5).2, by have := a3.length_eq; simp at this; omega⟩
      have n1 : ids.Nodup := a4.imp fun h => by omega
      have n2 : ids2.Nodup := b3.imp fun h => by omega
      refine rising_eq b3 a4 ((List.perm_ext_iff_of_nodup n2 n1).2 fun id => ?_)
      rw [b4]
      constructor
      · intro h3
        rcases List.mem_append.1 (a3.mem_iff.1 h3) with h3 | h3
        · obtain ⟨i, hi, e2⟩ := List.mem_map.1 h3
          injection e2 with _ e2
          rw [← e2]; exact hi
        · have := a5 _ h3
          simp at this
      · exact hin id
/-- Behind both Dues. -/
structure DueEnd (w W : World) (cb rb mb bx : Nat) (k : Nat) (t id : Int) (v u : Value) : Prop where
  x : XBox W bx t id
  s : ∃ ids, IntsAt W v ids ∧ IntsAt W u ids
  j : ∃ (F' : Nat → Prop) (now' : Int) (D' : DataW Unit) (l' : List Hp.E), ClkJ w W cb F' rb mb now' D' l' k ∧ ¬ F' bx
/-- Behind the program's Due. -/
structure DueMid (w W : World) (cb rb mb bx : Nat) (now : Int) (D : DataW Unit) (l : List Hp.E) (k : Nat) (t id : Int) (v : Value) : Prop where
  x : XBox W bx t id
  ex : ∃ (F : Nat → Prop) (ids : List Int) (m : Int) (l' : List Hp.E) (B : Nat), OwnI W B v ids ∧ rb < B ∧ mb < B ∧ DueR now l ids m l' ∧ ClockAt W cb F m l' ∧ RefC W rb mb now D l ∧ ¬ F rb ∧ ¬ F mb ∧ ¬ F bx ∧ (∀ b, F b → w.heap.size ≤ b) ∧ w.heap.size ≤ rb ∧ w.heap.size ≤ mb ∧ Below w.heap.size w W ∧ l.length ≤ k ∧ ErrT W ∧ 0 < w.heap.size ∧ bx ≠ mb ∧ bx ≠ rb
theorem ClkX.due1 {w W : World} {cb : Nat} {F : Nat → Prop} {rb mb bx : Nat} {now : Int} {D : DataW Unit} {l : List Hp.E} {k : Nat} {t id : Int} (h : ClkX w W cb F rb mb bx now D l k t id) :
    Calls Tryd.prog 24 #[.pointer (some ⟨cb, 0, none⟩)] W fun e w' => ∃ v, e = .returned v ∧ DueMid w w' cb rb mb bx now D l k t id v := by
  obtain ⟨j, x, nf, nr, nm⟩ := h
  refine (cdue_any W j.c).mono ?_
  rintro e w' ⟨v, ids, m, l', rfl, hO, hc, hkp, hd⟩
  exact ⟨v, rfl, x.keeps hkp nf, F, ids, m, l', W.heap.size, hO, j.r.lt, j.r.map.lt, hd, hc, j.r.keeps hkp j.nr j.nm, j.nr, j.nm, nf, j.lo, j.lor, j.lom, j.bel.trans (hkp.below j.bel.size fun b _ e => j.lo b e), j.len,
    hkp.cell_of j.err (show ¬ F 0 from fun e => by have := j.lo _ e; have := j.elo; omega), j.elo, nm, nr⟩
theorem DueMid.due2 {w W : World} {cb rb mb bx : Nat} {now : Int} {D : DataW Unit} {l : List Hp.E} {k : Nat} {t id : Int} {v : Value} (h : DueMid w W cb rb mb bx now D l k t id v) :
    Calls Tryd.prog 25 #[.pointer (some ⟨rb, 0, none⟩)] W fun e w' => ∃ u, e = .returned u ∧ DueEnd w w' cb rb mb bx k t id v u := by
  obtain ⟨F, ids, m, l', B, hO, hr1, hm1, hd, hc, hr, h3, h4, h5, h6, h7, h8, h9, h10, h11, h12, h13, h14⟩ := h.ex
  refine (refDue_any W hr).mono ?_
  rintro e w' ⟨u, ids2, m2, D', l2, rfl, hO2, hr2, hkp, hs⟩
  obtain ⟨rfl, rfl, hp, hl⟩ := due_same hd hs
  exact ⟨u, rfl, h.x.keeps hkp (by rintro (e | e); exact h14 e; exact h13 e), ⟨_, (hO.keeps hkp fun b e e2 => by have := hO.le b e; omega).ints, hO2.ints⟩, F, _, D', l', ⟨hc.keeps hkp fun b hb e => e.elim (fun e => h3 (e ▸ hb)) fun e => h4 (e ▸ hb), hr2.perm hp, h3, h4, h6, h7, h8, h9.trans (hkp.below h9.size fun b _ e => by omega), by omega, hkp.cell_of h11 (show ¬ (0 = rb ∨ 0 = mb) by omega), h12⟩, h5⟩
theorem DueEnd.due3 {w W : World} {cb rb mb bx : Nat} {k : Nat} {t id : Int} {v u : Value} (h : DueEnd w W cb rb mb bx k t id v u) :
    Calls Tryd.prog 23 #[v, u] W fun e w' => e = .returned (.bool true) ∧ DueEnd w w' cb rb mb bx k t id v u := by
  obtain ⟨ids, h1, h2⟩ := h.s
  refine (sameInts_any v u ids W h1 h2).mono ?_
  rintro e w' ⟨rfl, n, rfl⟩
  have hk : Keeps (fun _ => False) W (W.drewN n) := keeps_drewN0 W n
  obtain ⟨F', now', D', l', hj, hn⟩ := h.j
  exact ⟨rfl, h.x.keeps hk nof, ⟨ids, h1.keeps hk fun _ _ => nof, h2.keeps hk fun _ _ => nof⟩, F', now', D', l', hj.fresh hk, hn⟩

/-- What a look at the reference's map tells. -/
def LookR (l : List Hp.E) (id x : Int) (b : Bool) : Prop := (b = true ∧ (x, id) ∈ l) ∨ (b = false ∧ x = 0 ∧ ¬ IdIn l id)
set_option maxRecDepth 100000 in
theorem RefC.look {w : World} {rb mb : Nat} {now : Int} {D : DataW Unit} {l : List Hp.E} (h : RefC w rb mb now D l) (id : Int) (hw : (Lit.int .i64 id).wf = true) :
    ∃ (x : Int) (b : Bool), LookR l id x b ∧ ∀ n, (Instr.lookup 50 (.map (some mb)) (.int .i64 id) true).run Tryd.prog (w.drewN n) = .ok (.tuple #[.int .i64 x, .bool b]) (w.drewN n) := by
  have key : ∀ W : World, W.ownsMap Tryd.prog 3 (plainElem Tryd.prog 3) mb 1000000 D → ∃ c : Int, D.atKey (.int .i64 id) (.lit (.int .i64 0)) = .lit (.int .i64 c) ∧ (Instr.lookup 50 (.map (some mb)) (.int .i64 id) true).run Tryd.prog W = .ok (.tuple #[.int .i64 c, .bool (Maps.has D (.int .i64 id))]) W := fun W hW => by
    obtain ⟨v, ps, h1, h2⟩ := hW.look_ok keyedI Tryd.underlying50 (zero_int W) (plainElem_int Tryd.underlying3 (by decide)) (keyOf_int_mk Tryd.underlying3 hw)
    obtain ⟨c, rfl, hc, _⟩ := plainElem_int_inv Tryd.underlying3 h2
    exact ⟨c, congrArg Prod.fst hc, h1⟩
  obtain ⟨c, hc, _⟩ := key w h.map
  have key2 : ∀ n, (Instr.lookup 50 (.map (some mb)) (.int .i64 id) true).run Tryd.prog (w.drewN n) = .ok (.tuple #[.int .i64 c, .bool (Maps.has D (.int .i64 id))]) (w.drewN n) := fun n => by
    obtain ⟨c', hc', hr⟩ := key (w.drewN n) ((keeps_drewN0 w n).map h.map nof)
    rw [hc] at hc'
    injection hc' with hc'
    injection hc' with _ hc'
    rw [hc']; exact hr
  by_cases hi : IdIn l id
  · obtain ⟨e, he, h2⟩ := idIn_iff.1 hi
    have h3 := h.tell.tm e he (.lit (.int .i64 0))
    rw [h2, hc] at h3
    injection h3 with h3
    injection h3 with _ h3
    refine ⟨c, true, Or.inl ⟨rfl, ?_⟩, fun n => by have := key2 n; rw [(h.tell.has id).2 hi] at this; exact this⟩
    have : (c, id) = e := Prod.ext h3 h2.symm
    rw [this]; exact he
  · have h3 : D.atKey (.int .i64 id) (.lit (.int .i64 0)) = .lit (.int .i64 0) := atKey_of_not_has (h.tell.no hi) _
    rw [hc] at h3
    injection h3 with h3
    injection h3 with _ h3
    exact ⟨c, false, Or.inr ⟨rfl, h3, hi⟩, fun n => by have := key2 n; rw [h.tell.no hi] at this; exact this⟩
theorem RefC.maplen {w : World} {rb mb : Nat} {now : Int} {D : DataW Unit} {l : List Hp.E} (h : RefC w rb mb now D l) (ty : TypeId) (n : Nat) : (Builtin.len_ #[50] ty #[.map (some mb)]).run Tryd.prog (w.drewN n) = .ok (.int .i64 (l.length : Nat)) (w.drewN n) := by
  have := ((keeps_drewN0 w n).map h.map nof).len Tryd.underlying50 ty
  rw [h.tell.size] at this
  exact this
/-- Behind the reference's delete. -/
structure DropMid (w W : World) (cb : Nat) (F : Nat → Prop) (rb mb bx : Nat) (now : Int) (l : List Hp.E) (k : Nat) (t id : Int) : Prop where
  x : XBox W bx t id
  nf : ¬ F bx
  ex : ∃ D', ClockAt W cb F now l ∧ RefC W rb mb now D' (l.filter fun e => !decide (e.2 = id)) ∧ ¬ F rb ∧ ¬ F mb ∧ (∀ b, F b → w.heap.size ≤ b) ∧ w.heap.size ≤ rb ∧ w.heap.size ≤ mb ∧ Below w.heap.size w W ∧ l.length ≤ k ∧ ErrT W ∧ 0 < w.heap.size
theorem ClkX.drop1 {w W W' : World} {cb : Nat} {F : Nat → Prop} {rb mb bx : Nat} {now : Int} {D : DataW Unit} {l : List Hp.E} {k : Nat} {t id : Int} (h : ClkX w W cb F rb mb bx now D l k t id) {n : Nat} (hm : W'.ownsMap Tryd.prog 3 (plainElem Tryd.prog 3) mb n (D.del (.int .i64 id))) (hg : W.grownBy W' (some mb)) :
    DropMid w W' cb F rb mb bx now l k t id := by
  obtain ⟨j, x, nf, nr, nm⟩ := h
  have hk : Keeps (fun b => b = mb) W W' := Keeps.of_grownBy hg fun k _ e => by injection e with e; exact e.symm
  exact ⟨x.keeps hk nm, nf, _, j.c.keeps hk (fun b hb e => j.nm (e ▸ hb)), j.r.turn hk hm (j.r.tell.del (j.r.map.tidy keyedI) id) (Nat.le_trans (List.length_filter_le _ _) j.r.len), j.nr, j.nm, j.lo, j.lor, j.lom, j.bel.trans (hk.below j.bel.size fun b _ e => by have := j.lom; omega), j.len,
    hk.cell_of j.err (show ¬ (0 = mb) by have h1 := j.lom; have h2 := j.elo; omega), j.elo⟩
theorem DropMid.drop2 {w W : World} {cb : Nat} {F : Nat → Prop} {rb mb bx : Nat} {now : Int} {l : List Hp.E} {k : Nat} {t id x : Int} {b : Bool} (h : DropMid w W cb F rb mb bx now l k t id) (hw : (Lit.int .i64 id).wf = true) (hb : LookR l id x b) :
    Calls Tryd.prog 26 #[.pointer (some ⟨cb, 0, none⟩), .int .i64 id] W fun e w' => e = .returned (.bool b) ∧ XBox w' bx t id ∧ ∃ D' l', ClkJ w w' cb F rb mb now D' l' k := by
  obtain ⟨D', hc, hr, h3, h4, h6, h7, h8, h9, h10, h11, h12⟩ := h.ex
  refine (cdrop_any W hc id hw).mono ?_
  rintro e w' ⟨b2, l', rfl, hc', hkp, hd⟩
  have key : b2 = b ∧ (l.filter fun e => !decide (e.2 = id)).Perm l' ∧ l'.length ≤ l.length := by
    rcases hd with ⟨rfl, tm, hp⟩ | ⟨rfl, rfl, hn⟩
    · have hin : IdIn l id := idIn_iff.2 ⟨(tm, id), hp.mem_iff.2 (by simp), rfl⟩
      refine ⟨?_, ?_, by have := hp.length_eq; simp at this; omega⟩
      · rcases hb with ⟨rfl, _⟩ | ⟨_, _, hn⟩
        · rfl
        · exact absurd hin hn
      · have h1 := hp.filter fun e => !decide (e.2 = id)
        have hna : ∀ e ∈ l', e.2 ≠ id := fun e he h2 => by
          have h5 := (hp.map (·.2)).nodup_iff.1 hc.once
          rw [List.map_cons, List.nodup_cons] at h5
          exact h5.1 (List.mem_map.2 ⟨e, he, h2⟩)
        have h2 : ((tm, id) :: l').filter (fun e => !decide (e.2 = id)) = l' := by
          rw [List.filter_cons_of_neg (by simp)]
          exact List.filter_eq_self.2 fun e he => by simp [hna e he]
        rw [h2] at h1
        exact h1
    · refine ⟨?_, ?_, Nat.le_refl _⟩
      · rcases hb with ⟨_, hin⟩ | ⟨rfl, _⟩
        · exact absurd (idIn_iff.2 ⟨_, hin, rfl⟩) hn
        · rfl
      · rw [List.filter_eq_self.2 fun e he => by
          have : e.2 ≠ id := fun e2 => hn (idIn_iff.2 ⟨e, he, e2⟩)
          simp [this]]
  obtain ⟨rfl, hp, hl⟩ := key
  exact ⟨rfl, h.x.keeps hkp h.nf, D', l', hc', (hr.keeps hkp h3 h4).perm hp, h3, h4, h6, h7, h8, h9.trans (hkp.below h9.size fun b _ e => h6 b e), by omega, hkp.cell_of h11 (show ¬ F 0 from fun e => by have := h6 _ e; omega), h12⟩
theorem next_same {now x y : Int} {b d : Bool} {l : List Hp.E} (h1 : (b = true ∧ (∃ e ∈ l, e.1 = x) ∧ ∀ e ∈ l, x ≤ e.1) ∨ (b = false ∧ x = 0 ∧ l = []))
    (h2 : (d = true ∧ 0 < l.length ∧ y = (Hp.g l 0).1 ∧ now ≤ y ∧ (∃ e ∈ l, e.1 = y) ∧ ∀ e ∈ l, y ≤ e.1) ∨ (d = false ∧ y = 0 ∧ l = [])) : y = x ∧ d = b := by
  rcases h1 with ⟨rfl, ⟨e, he, rfl⟩, h3⟩ | ⟨rfl, rfl, rfl⟩
  · rcases h2 with ⟨rfl, _, _, _, ⟨f, hf, rfl⟩, h4⟩ | ⟨_, _, rfl⟩
    · have := h3 f hf
      have := h4 e he
      exact ⟨by omega, rfl⟩
    · cases he
  · rcases h2 with ⟨_, h3, _⟩ | ⟨rfl, rfl, _⟩
    · simp at h3
    · exact ⟨rfl, rfl⟩
theorem look_same {id x y : Int} {b d : Bool} {D : DataW Unit} {l : List Hp.E} (hm : MapOf D l) (h1 : LookR l id x b) (h2 : (d = true ∧ (y, id) ∈ l) ∨ (d = false ∧ y = 0 ∧ ¬ IdIn l id)) : y = x ∧ d = b := by
  rcases h1 with ⟨rfl, h3⟩ | ⟨rfl, rfl, h3⟩
  · rcases h2 with ⟨rfl, h4⟩ | ⟨_, _, h4⟩
    · have := hm.same h4 h3 rfl
      injection this with h5 _
      exact ⟨h5, rfl⟩
    · exact absurd (idIn_iff.2 ⟨_, h3, rfl⟩) h4
  · rcases h2 with ⟨_, h4⟩ | ⟨rfl, rfl, _⟩
    · exact absurd (idIn_iff.2 ⟨_, h4, rfl⟩) h3
    · exact ⟨rfl, rfl⟩
end Go.Proofs.YthdckapgpibmiaaDoor
