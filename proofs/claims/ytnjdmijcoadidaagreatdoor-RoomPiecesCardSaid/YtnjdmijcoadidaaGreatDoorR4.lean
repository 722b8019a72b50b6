/-
  Texts of one proof, in build order: The walks of package room: sleep, shut. | The walks of package room: shut. | The walks of package room: talk. | The walks of package room: what comes of what a task asks for. | The walks of package room: who is ready, how many may take a turn. | The walks of package room: the clock's turn. | The walks of package room: a turn. | The walks of package room: turns, one behind the other. | The walks of package room: events, told. | The walks of package room: all that is to be seen. | The walks of package room: a new one. | The walks of package room: New. | The walk of the laws' helper 'pick': a number below n. | A player of a room in memory: it asks for what a script tells. | A region that draws its order, some of whose operations are LATE: they wait for all that is taken ahead of its turn; so a condition on the world may be asked up to them, and not behind them.
-/
import Derived.Test.YtnjdmijcoadidaaGreatDoorR3
import Derived.Test.YtnjdmijcoadidaaGreatDoorRows
import Derived.WalkKit
import Derived.WalkSpells
import Derived.WalkLawsBesides
import Derived.Lib.Hide
import Derived.Deep.RegionHeld
namespace Go.Proofs.YtnjdmijcoadidaaGreatDoor
open Go.RowKit Go.Maps Pp

section
variable {α : Type} {w0 : World} {C : DoerW α w0} {w w' w1 w2 : World} {τ τ' : Nat → RR} {rb N N' N1 N2 : Nat} {s s' s1 s2 : Rm.S α} {V : RK → Value} {l : List Hp.E}
set_option maxRecDepth 100000 in
theorem roomnow_any (h : RoomT w0 C w τ rb N s) : Calls Tryz.prog 54 #[.pointer (some ⟨rb, 4, none⟩)] w fun e w' => e = .returned (.int .i64 s.now) ∧ w = w' := by
  obtain ⟨V, l, hr⟩ := h
  refine (cnow_any w hr.ck).mono ?_
  rintro e w' ⟨h1, h2⟩
  exact ⟨h1, h2⟩
set_option maxRecDepth 100000 in
theorem roomclen_any (h : RoomT w0 C w τ rb N s) : Calls Tryz.prog 41 #[.pointer (some ⟨rb, 4, none⟩)] w fun e w' => e = .returned (.int .i64 (s.clock.length : Nat)) ∧ w = w' := by
  obtain ⟨V, l, hr⟩ := h
  rw [← hr.cl.length_eq]
  refine (clen_any w hr.ck).mono ?_
  rintro e w' ⟨h1, h2⟩
  exact ⟨h1, h2⟩
set_option maxRecDepth 100000 in
theorem roomset_any (h : RoomT w0 C w τ rb N s) (when_ : Int) (t : Nat) (hw : s.now ≤ when_) (hi : ∀ e ∈ s.clock, e.2 ≠ (t : Int)) (hl : s.clock.length < 1000) (ht : t ≤ 1000000) :
    Calls Tryz.prog 112 #[.pointer (some ⟨rb, 4, none⟩), .int .i64 when_, .int .i64 t] w fun e w' => e = .returned .nilIface ∧ Goes w0 C w w' τ rb N { s with clock := s.clock ++ [(when_, (t : Int))] } := by
  obtain ⟨V, l, hr⟩ := h
  refine (cset_any w hr.ck when_ (t : Int) (wf_small _ (by omega)) (by rw [hr.cl.length_eq]; exact hl)).mono ?_
  rintro e w' ⟨r, F', l', rfl, h1, h2, h3, h4⟩
  have hni : ¬ IdIn l (t : Int) := fun e => by
    obtain ⟨x, hx, e2⟩ := idIn_iff.1 e
    exact hi x (hr.cl.mem_iff.1 hx) e2
  rcases h4 with ⟨h5, _⟩ | ⟨_, h5, _⟩ | ⟨_, _, rfl, h6⟩
  · omega
  · exact absurd h5 hni
  · exact ⟨rfl, hr.goes_clocked h1 h2 h3 (h6.trans (List.Perm.append_right _ hr.cl))⟩
set_option maxRecDepth 100000 in
theorem roomdue_any (h : RoomT w0 C w τ rb N s) : Calls Tryz.prog 73 #[.pointer (some ⟨rb, 4, none⟩)] w fun e w' => ∃ v ids m l', e = .returned v ∧ OwnI w' w.heap.size v ids ∧ DueR s.now s.clock ids m l' ∧ Goes w0 C w w' τ rb N { s with now := m, clock := l' } := by
  obtain ⟨V, l, hr⟩ := h
  refine (cdue_any w hr.ck).mono ?_
  rintro e w' ⟨v, ids, m, l', rfl, h1, h2, h3, h4⟩
  refine ⟨v, ids, m, l', rfl, h1, ?_, hr.goes_clocked h2 (fun b hb => Or.inl hb) h3 (List.Perm.refl _)⟩
  rcases h4 with ⟨rfl, h5, h6, h7⟩ | ⟨h5, h6, h7, h8, h9⟩
  · exact Or.inl ⟨hr.cl.nil_eq.symm, h5, h6, h7⟩
  · exact Or.inr ⟨h5, h6, hr.cl.symm.trans h7, h8, h9⟩
set_option maxRecDepth 100000 in
set_option maxHeartbeats 6400000 in
theorem sleep_any (h : RoomT w0 C w τ rb N s) (hf : Fits C s) (t : Nat) (ht : t < s.tasks.length) (n : Int) (n0 : -9223372036854775808 ≤ n) (n1 : n ≤ 9223372036854775807) (hi : ∀ e ∈ s.clock, e.2 ≠ (t : Int)) (hl : s.clock.length < 1000) (w0' : 0 ≤ s.now) (w1' : s.now ≤ 1000000000000000) :
    Calls Tryz.prog 81 #[.pointer (some ⟨rb, 0, none⟩), .int .i64 t, .int .i64 n] w fun e w' => e = .returned (.tuple #[]) ∧ Goes w0 C w w' τ rb N (Rm.sleepA C.D s t n) := by
  have HH := Lib.hid h
  have HF := Lib.hid hf
  have e0 := nq_none
  by_cases hn : n ≤ 0
  · have hp : Rm.sleepA C.D s t n = Rm.give C.D s t 0 0 := if_pos hn
    rw [hp]
    have HG := Lib.hid (give_any h t (by have := hf.num; omega) (by have := hf.num; have := hf.tasks; omega) (by have := hf.big; omega) 0 0)
    clear h hf hp hi
    go_enter Tryz.func81, Tryz.ntmps81
    go_wp2_with fail
    refine HG.out.mono ?_
    rintro e w2 ⟨rfl, hg⟩
    have HG2 := Lib.hid hg
    clear hg
    go_wp2_with fail
    refine bodyPost_ret (results_none rfl _ _ _) rfl ?_
    exact ⟨rfl, HG2.out⟩
  · by_cases hb : 1000 < n
    · have hmin : min n 1000 = 1000 := by omega
      have hp : Rm.sleepA C.D s t n = Rm.be { s with clock := s.clock ++ [(s.now + 1000, (t : Int))] } t 2 := by
        have h5 : Rm.sleepA C.D s t n = Rm.be { s with clock := s.clock ++ [(s.now + min n 1000, (t : Int))] } t 2 := if_neg hn
        rw [hmin] at h5; exact h5
      rw [hp]
      have hwr : IntKind.i64.wrap (s.now + 1000) = s.now + 1000 := by
        exact IntWalk.i64_in _ (by omega)
      have HNOW := Lib.hid (roomnow_any (h.new (keeps_drew0 w)))
      have HSET := Lib.hid (roomset_any (h.new (keeps_drew0 w)) (s.now + 1000) t (by omega) hi hl (by have := hf.tasks; omega))
      clear h hf hp hi hmin
      go_enter Tryz.func81, Tryz.ntmps81
      go_wp2_with fail
      refine wp_region_held_drew (S := (fun _ : World => True)) (by kernel_rfl) trivial (fun hHeld => ?_)
      refine wpAnyH_take (i := 0) (oi := { dst := some 13, op := _, type := _, pos := _, after := _, guard := _ }) (v := .pointer (some ⟨rb, 0, none⟩)) rfl (by kernel_rfl) (by kernel_rfl) (by kernel_rfl) (fun _ _ _ h => h) (Or.inl ⟨by rfl, ?_⟩) hHeld ?_
      · intro W9 hSW
        (try dsimp only at hSW)
        go_simp
      try simp only [Act.put, List.setIfInBounds_toArray, List.set_cons_zero, List.set_cons_succ]
      refine wpAnyH_take (i := 1) (oi := { dst := some 14, op := _, type := _, pos := _, after := _, guard := _ }) (v := .pointer (some ⟨rb, 0, none⟩)) rfl (by kernel_rfl) (by kernel_rfl) (by kernel_rfl) (fun _ _ _ h => h) (Or.inl ⟨by rfl, ?_⟩) hHeld ?_
      · intro W9 hSW
        (try dsimp only at hSW)
        go_simp
      try simp only [Act.put, List.setIfInBounds_toArray, List.set_cons_zero, List.set_cons_succ]
      refine wpAnyH_take (i := 2) (oi := { dst := some 15, op := _, type := _, pos := _, after := _, guard := _ }) (v := .pointer (some ⟨rb, 4, none⟩)) rfl (by kernel_rfl) (by kernel_rfl) (by kernel_rfl) (fun _ _ _ h => h) (Or.inl ⟨by rfl, ?_⟩) hHeld ?_
      · intro W9 hSW
        (try dsimp only at hSW)
        go_simp
      try simp only [Act.put, List.setIfInBounds_toArray, List.set_cons_zero, List.set_cons_succ]
      refine wpAnyH_take (i := 3) (oi := { dst := some 16, op := _, type := _, pos := _, after := _, guard := _ }) (v := .pointer (some ⟨rb, 0, none⟩)) rfl (by kernel_rfl) (by kernel_rfl) (by kernel_rfl) (fun _ _ _ h => h) (Or.inl ⟨by rfl, ?_⟩) hHeld ?_
      · intro W9 hSW
        (try dsimp only at hSW)
        go_simp
      try simp only [Act.put, List.setIfInBounds_toArray, List.set_cons_zero, List.set_cons_succ]
      refine wpAnyH_take (i := 4) (oi := { dst := some 17, op := _, type := _, pos := _, after := _, guard := _ }) (v := .pointer (some ⟨rb, 0, none⟩)) rfl (by kernel_rfl) (by kernel_rfl) (by kernel_rfl) (fun _ _ _ h => h) (Or.inl ⟨by rfl, ?_⟩) hHeld ?_
      · intro W9 hSW
        (try dsimp only at hSW)
        go_simp
      try simp only [Act.put, List.setIfInBounds_toArray, List.set_cons_zero, List.set_cons_succ]
      refine wpAnyH_take (i := 5) (oi := { dst := some 18, op := _, type := _, pos := _, after := _, guard := _ }) (v := .pointer (some ⟨rb, 4, none⟩)) rfl (by kernel_rfl) (by kernel_rfl) (by kernel_rfl) (fun _ _ _ h => h) (Or.inl ⟨by rfl, ?_⟩) hHeld ?_
      · intro W9 hSW
        (try dsimp only at hSW)
        go_simp
      try simp only [Act.put, List.setIfInBounds_toArray, List.set_cons_zero, List.set_cons_succ]
      refine wpAnyH_take (i := 7) (oi := { dst := some 20, op := _, type := _, pos := _, after := _, guard := _ }) (v := .int .i64 n) rfl (by kernel_rfl) (by kernel_rfl) (by kernel_rfl) (fun _ _ _ h => h) (Or.inl ⟨by rfl, ?_⟩) hHeld ?_
      · intro W9 hSW
        (try dsimp only at hSW)
        go_simp
      try simp only [Act.put, List.setIfInBounds_toArray, List.set_cons_zero, List.set_cons_succ]
      refine wpAnyH_take (i := 8) (oi := { dst := some 21, op := _, type := _, pos := _, after := _, guard := _ }) (v := .int .i64 1000) rfl (by kernel_rfl) (by kernel_rfl) (by kernel_rfl) (fun _ _ _ h => h) (Or.inl ⟨by rfl, ?_⟩) hHeld ?_
      · intro W9 hSW
        (try dsimp only at hSW)
        go_simp
      try simp only [Act.put, List.setIfInBounds_toArray, List.set_cons_zero, List.set_cons_succ]
      refine wpAnyH_take (i := 10) (oi := { dst := some 23, op := _, type := _, pos := _, after := _, guard := _ }) (v := .int .i64 t) rfl (by kernel_rfl) (by kernel_rfl) (by kernel_rfl) (fun _ _ _ h => h) (Or.inl ⟨by rfl, ?_⟩) hHeld ?_
      · intro W9 hSW
        (try dsimp only at hSW)
        go_simp
      try simp only [Act.put, List.setIfInBounds_toArray, List.set_cons_zero, List.set_cons_succ]
      refine wpAnyH_ready (rs := [6]) (by kernel_rfl) (by simp) ?_
      refine AllReadyH.cons (o := { dst := some 19, op := _, type := _, pos := _, after := _, guard := _ }) rfl (fun K hK => ?_) AllReadyH.nil
      go_simp
      refine HNOW.out.mono ?_
      rintro e w2 ⟨rfl, rfl⟩
      refine hK.out _ _ trivial (fun hHeld => ?_)
      clear hK K
      refine wpAnyH_take (i := 9) (oi := { dst := some 22, op := _, type := _, pos := _, after := _, guard := _ }) (v := .int .i64 (s.now + 1000)) rfl (by kernel_rfl) (by kernel_rfl) (by kernel_rfl) (fun _ _ _ h => h) (Or.inl ⟨by rfl, ?_⟩) hHeld ?_
      · intro W9 hSW
        (try dsimp only at hSW)
        go_simp
      try simp only [Act.put, List.setIfInBounds_toArray, List.set_cons_zero, List.set_cons_succ]
      refine wpAnyH_ready (rs := [11]) (by kernel_rfl) (by simp) ?_
      refine AllReadyH.cons (o := { dst := some 24, op := _, type := _, pos := _, after := _, guard := _ }) rfl (fun K hK => ?_) AllReadyH.nil
      go_simp
      refine HSET.out.mono ?_
      rintro e w2 ⟨rfl, hg⟩
      have HG2 := Lib.hid (hg.first (keeps_drew0 w))
      clear hg
      go_simp
      refine hK.out _ _ trivial (fun hHeld => ?_)
      clear hK K
      refine wpAnyH_take (i := 12) (oi := { dst := some 6, op := _, type := _, pos := _, after := _, guard := _ }) (v := .nilIface) rfl (by kernel_rfl) (by kernel_rfl) (by kernel_rfl) (fun _ _ _ h => h) (Or.inl ⟨by rfl, ?_⟩) hHeld ?_
      · intro W9 hSW
        (try dsimp only at hSW)
        go_simp
      try simp only [Act.put, List.setIfInBounds_toArray, List.set_cons_zero, List.set_cons_succ]
      refine wpAnyH_done (by kernel_rfl) ?_ _
      obtain ⟨τ2, ⟨V2, l2, hR2⟩, hf2⟩ := HG2.out.ex
      obtain ⟨g, cap, hv, hc1, hc2, hg, hz, hcell⟩ := row_open (hR2.rv .tasks) (show 0 < s.tasks.length by omega)
      have hv' : V2 .tasks = .slice (some ⟨g, 0, none⟩) s.tasks.length cap := hv
      have c2 : w2.cell? ⟨rb, 2, none⟩ = some (.slice (some ⟨g, 0, none⟩) s.tasks.length cap) := (hR2.cv .tasks).trans (by rw [hv'])
      have ct := hcell t _ (ints_at ht)
      have zt := hz t
      have htl : (0 : Int) ≤ (t : Int) ∧ (t : Int) < (s.tasks.length : Int) := by omega
      unfold maxLen at hc2
      have HG5 := Lib.hid ((hR2.goes_be hv' t 2).trans HG2.out.keep hf2)
      obtain ⟨y, hy⟩ : ∃ y, y = s.tasks.getD t 0 := ⟨_, rfl⟩
      have ct' : w2.cell? ⟨g, t, none⟩ = some (.int .i64 y) := by rw [hy]; exact ct
      clear hR2 hf2 hv hv' hz hcell ct hy hg hc1 hHeld
      go_wp2_with fail
      go_end0
      exact ⟨rfl, HG5.out⟩
    · have hmin : min n 1000 = n := by omega
      have hp : Rm.sleepA C.D s t n = Rm.be { s with clock := s.clock ++ [(s.now + n, (t : Int))] } t 2 := by
        have h5 : Rm.sleepA C.D s t n = Rm.be { s with clock := s.clock ++ [(s.now + min n 1000, (t : Int))] } t 2 := if_neg hn
        rw [hmin] at h5; exact h5
      rw [hp]
      have hwr : IntKind.i64.wrap (s.now + n) = s.now + n := by
        exact IntWalk.i64_in _ (by omega)
      have HNOW := Lib.hid (roomnow_any (h.new (keeps_drew0 w)))
      have HSET := Lib.hid (roomset_any (h.new (keeps_drew0 w)) (s.now + n) t (by omega) hi hl (by have := hf.tasks; omega))
      clear h hf hp hi hmin
      go_enter Tryz.func81, Tryz.ntmps81
      go_wp2_with fail
      refine wp_region_held_drew (S := (fun _ : World => True)) (by kernel_rfl) trivial (fun hHeld => ?_)
      refine wpAnyH_take (i := 0) (oi := { dst := some 13, op := _, type := _, pos := _, after := _, guard := _ }) (v := .pointer (some ⟨rb, 0, none⟩)) rfl (by kernel_rfl) (by kernel_rfl) (by kernel_rfl) (fun _ _ _ h => h) (Or.inl ⟨by rfl, ?_⟩) hHeld ?_
      · intro W9 hSW
        (try dsimp only at hSW)
        go_simp
      try simp only [Act.put, List.setIfInBounds_toArray, List.set_cons_zero, List.set_cons_succ]
      refine wpAnyH_take (i := 1) (oi := { dst := some 14, op := _, type := _, pos := _, after := _, guard := _ }) (v := .pointer (some ⟨rb, 0, none⟩)) rfl (by kernel_rfl) (by kernel_rfl) (by kernel_rfl) (fun _ _ _ h => h) (Or.inl ⟨by rfl, ?_⟩) hHeld ?_
      · intro W9 hSW
        (try dsimp only at hSW)
        go_simp
      try simp only [Act.put, List.setIfInBounds_toArray, List.set_cons_zero, List.set_cons_succ]
      refine wpAnyH_take (i := 2) (oi := { dst := some 15, op := _, type := _, pos := _, after := _, guard := _ }) (v := .pointer (some ⟨rb, 4, none⟩)) rfl (by kernel_rfl) (by kernel_rfl) (by kernel_rfl) (fun _ _ _ h => h) (Or.inl ⟨by rfl, ?_⟩) hHeld ?_
      · intro W9 hSW
        (try dsimp only at hSW)
        go_simp
      try simp only [Act.put, List.setIfInBounds_toArray, List.set_cons_zero, List.set_cons_succ]
      refine wpAnyH_take (i := 3) (oi := { dst := some 16, op := _, type := _, pos := _, after := _, guard := _ }) (v := .pointer (some ⟨rb, 0, none⟩)) rfl (by kernel_rfl) (by kernel_rfl) (by kernel_rfl) (fun _ _ _ h => h) (Or.inl ⟨by rfl, ?_⟩) hHeld ?_
      · intro W9 hSW
        (try dsimp only at hSW)
        go_simp
      try simp only [Act.put, List.setIfInBounds_toArray, List.set_cons_zero, List.set_cons_succ]
      refine wpAnyH_take (i := 4) (oi := { dst := some 17, op := _, type := _, pos := _, after := _, guard := _ }) (v := .pointer (some ⟨rb, 0, none⟩)) rfl (by kernel_rfl) (by kernel_rfl) (by kernel_rfl) (fun _ _ _ h => h) (Or.inl ⟨by rfl, ?_⟩) hHeld ?_
      · intro W9 hSW
        (try dsimp only at hSW)
        go_simp
      try simp only [Act.put, List.setIfInBounds_toArray, List.set_cons_zero, List.set_cons_succ]
      refine wpAnyH_take (i := 5) (oi := { dst := some 18, op := _, type := _, pos := _, after := _, guard := _ }) (v := .pointer (some ⟨rb, 4, none⟩)) rfl (by kernel_rfl) (by kernel_rfl) (by kernel_rfl) (fun _ _ _ h => h) (Or.inl ⟨by rfl, ?_⟩) hHeld ?_
      · intro W9 hSW
        (try dsimp only at hSW)
        go_simp
      try simp only [Act.put, List.setIfInBounds_toArray, List.set_cons_zero, List.set_cons_succ]
      refine wpAnyH_take (i := 7) (oi := { dst := some 20, op := _, type := _, pos := _, after := _, guard := _ }) (v := .int .i64 n) rfl (by kernel_rfl) (by kernel_rfl) (by kernel_rfl) (fun _ _ _ h => h) (Or.inl ⟨by rfl, ?_⟩) hHeld ?_
      · intro W9 hSW
        (try dsimp only at hSW)
        go_simp
      try simp only [Act.put, List.setIfInBounds_toArray, List.set_cons_zero, List.set_cons_succ]
      refine wpAnyH_take (i := 8) (oi := { dst := some 21, op := _, type := _, pos := _, after := _, guard := _ }) (v := .int .i64 n) rfl (by kernel_rfl) (by kernel_rfl) (by kernel_rfl) (fun _ _ _ h => h) (Or.inl ⟨by rfl, ?_⟩) hHeld ?_
      · intro W9 hSW
        (try dsimp only at hSW)
        go_simp
        all_goals omega
      try simp only [Act.put, List.setIfInBounds_toArray, List.set_cons_zero, List.set_cons_succ]
      refine wpAnyH_take (i := 10) (oi := { dst := some 23, op := _, type := _, pos := _, after := _, guard := _ }) (v := .int .i64 t) rfl (by kernel_rfl) (by kernel_rfl) (by kernel_rfl) (fun _ _ _ h => h) (Or.inl ⟨by rfl, ?_⟩) hHeld ?_
      · intro W9 hSW
        (try dsimp only at hSW)
        go_simp
      try simp only [Act.put, List.setIfInBounds_toArray, List.set_cons_zero, List.set_cons_succ]
      refine wpAnyH_ready (rs := [6]) (by kernel_rfl) (by simp) ?_
      refine AllReadyH.cons (o := { dst := some 19, op := _, type := _, pos := _, after := _, guard := _ }) rfl (fun K hK => ?_) AllReadyH.nil
      go_simp
      refine HNOW.out.mono ?_
      rintro e w2 ⟨rfl, rfl⟩
      refine hK.out _ _ trivial (fun hHeld => ?_)
      clear hK K
      refine wpAnyH_take (i := 9) (oi := { dst := some 22, op := _, type := _, pos := _, after := _, guard := _ }) (v := .int .i64 (s.now + n)) rfl (by kernel_rfl) (by kernel_rfl) (by kernel_rfl) (fun _ _ _ h => h) (Or.inl ⟨by rfl, ?_⟩) hHeld ?_
      · intro W9 hSW
        (try dsimp only at hSW)
        go_simp
      try simp only [Act.put, List.setIfInBounds_toArray, List.set_cons_zero, List.set_cons_succ]
      refine wpAnyH_ready (rs := [11]) (by kernel_rfl) (by simp) ?_
      refine AllReadyH.cons (o := { dst := some 24, op := _, type := _, pos := _, after := _, guard := _ }) rfl (fun K hK => ?_) AllReadyH.nil
      go_simp
      refine HSET.out.mono ?_
      rintro e w2 ⟨rfl, hg⟩
      have HG2 := Lib.hid (hg.first (keeps_drew0 w))
      clear hg
      go_simp
      refine hK.out _ _ trivial (fun hHeld => ?_)
      clear hK K
      refine wpAnyH_take (i := 12) (oi := { dst := some 6, op := _, type := _, pos := _, after := _, guard := _ }) (v := .nilIface) rfl (by kernel_rfl) (by kernel_rfl) (by kernel_rfl) (fun _ _ _ h => h) (Or.inl ⟨by rfl, ?_⟩) hHeld ?_
      · intro W9 hSW
        (try dsimp only at hSW)
        go_simp
      try simp only [Act.put, List.setIfInBounds_toArray, List.set_cons_zero, List.set_cons_succ]
      refine wpAnyH_done (by kernel_rfl) ?_ _
      obtain ⟨τ2, ⟨V2, l2, hR2⟩, hf2⟩ := HG2.out.ex
      obtain ⟨g, cap, hv, hc1, hc2, hg, hz, hcell⟩ := row_open (hR2.rv .tasks) (show 0 < s.tasks.length by omega)
      have hv' : V2 .tasks = .slice (some ⟨g, 0, none⟩) s.tasks.length cap := hv
      have c2 : w2.cell? ⟨rb, 2, none⟩ = some (.slice (some ⟨g, 0, none⟩) s.tasks.length cap) := (hR2.cv .tasks).trans (by rw [hv'])
      have ct := hcell t _ (ints_at ht)
      have zt := hz t
      have htl : (0 : Int) ≤ (t : Int) ∧ (t : Int) < (s.tasks.length : Int) := by omega
      unfold maxLen at hc2
      have HG5 := Lib.hid ((hR2.goes_be hv' t 2).trans HG2.out.keep hf2)
      obtain ⟨y, hy⟩ : ∃ y, y = s.tasks.getD t 0 := ⟨_, rfl⟩
      have ct' : w2.cell? ⟨g, t, none⟩ = some (.int .i64 y) := by rw [hy]; exact ct
      clear hR2 hf2 hv hv' hz hcell ct hy hg hc1 hHeld
      go_wp2_with fail
      go_end0
      exact ⟨rfl, HG5.out⟩
end
end Go.Proofs.YtnjdmijcoadidaaGreatDoor

namespace Go.Proofs.YtnjdmijcoadidaaGreatDoor
open Go.RowKit Go.Maps Pp

section
variable {α : Type} {w0 : World} {C : DoerW α w0} {w w' w1 w2 : World} {τ τ' : Nat → RR} {rb N N' N1 N2 : Nat} {s s' s1 s2 : Rm.S α} {V : RK → Value} {l : List Hp.E}
/-- The room went on; those that go on behind it are there to be read. -/
structure Pend (w0 : World) (C : DoerW α w0) (w w1 : World) (τ : Nat → RR) (rb N' : Nat) (s1 : Rm.S α) (vw : Value) (wk : List Wk) : Prop where
  ex : ∃ τ1, RoomT w0 C w1 τ1 rb N' s1 ∧ (∀ b, b < w.heap.size → τ b = .free → τ1 b = .free) ∧ ∀ b, vw.ownBlock = some b → τ1 b = .free
  wks : WksAt w1 vw wk
  lt : ∀ b, vw.ownBlock = some b → b < w1.heap.size
  keep : Keeps (fun b => τ b ≠ .free) w w1
theorem Pend.goes {vw : Value} {wk : List Wk} (h : Pend w0 C w w1 τ rb N' s1 vw wk) : Goes w0 C w w1 τ rb N' s1 := by
  obtain ⟨τ1, h1, h2, _⟩ := h.ex
  exact ⟨⟨τ1, h1, h2⟩, h.keep⟩
theorem Pend.then {τ1 : Nat → RR} {vw : Value} {wk : List Wk} (h : Pend w0 C w w1 τ rb N' s1 vw wk) (hf : ∀ b, b < w.heap.size → τ b = .free → τ1 b = .free) (hv : ∀ b, vw.ownBlock = some b → τ1 b = .free) (hg : Goes w0 C w1 w2 τ1 rb N2 s2) : Pend w0 C w w2 τ rb N2 s2 vw wk := by
  obtain ⟨τ2, h1, h2⟩ := hg.ex
  exact ⟨⟨τ2, h1, fun b hb e => h2 b (Nat.lt_of_lt_of_le hb h.keep.size) (hf b hb e), fun b hb => h2 b (h.lt b hb) (hv b hb)⟩, h.wks.on (fun b _ e => hv b e) hg.keep, fun b hb => Nat.lt_of_lt_of_le (h.lt b hb) hg.keep.size, h.keep.trans' hg.keep fun b hb e e2 => e (hf b hb e2)⟩
theorem Pend.new {vw : Value} {wk : List Wk} (h : Pend w0 C w w1 τ rb N' s1 vw wk) (hk : Keeps (fun _ => False) w1 w2) : Pend w0 C w w2 τ rb N' s1 vw wk := by
  obtain ⟨τ1, h1, h2, h3⟩ := h.ex
  exact h.then h2 h3 ((Goes.refl (h1.new hk)).first hk)
theorem roomclose_any (h : RoomT w0 C w τ rb N s) (hN : N ≤ 100000) (c : Int) : Calls Tryz.prog 110 #[.pointer (some ⟨rb, 8, none⟩), .int .i64 c] w fun e w' => ∃ vw, e = .returned (.tuple #[vw, errV (Pp.close s.pipes c).err]) ∧ Pend w0 C w w' τ rb N { s with pipes := (Pp.close s.pipes c).st } vw (Pp.close s.pipes c).wakes := by
  obtain ⟨V, l, hr⟩ := h
  refine (close_any hr.pp hN c).mono ?_
  rintro e w' ⟨vw, rfl, ⟨⟨ρ', h1, h2, h3⟩, h4, h5⟩⟩
  refine ⟨vw, rfl, ⟨⟨rolePipe τ ρ' w.heap.size, (hr.piped h1 (fun b hb => Or.inl (h2 b hb)) h5).bare, fun b hb e => rolePipe_old hb e, fun b hb => ?_⟩, wksAt_of h4, fun b hb => (World.ownsRow.lt h4 b hb).2, h5.mono fun b _ e e2 => by rw [e2] at e; exact e rfl⟩⟩
  have h6 := (World.ownsRow.lt h4 b hb).1
  have h7 : τ b = .free := Classical.byContradiction fun e => by have := hr.dom b e; omega
  unfold rolePipe
  rw [h7]
  simp only
  rw [if_pos h6, h3 b hb]
theorem tellEach_d (s : Rm.S α) (what c : Int) (l : List Wk) : (Rm.tellEach s what c l).d = s.d := by
  induction l generalizing s with
  | nil => rfl
  | cons x l ih => rw [Rm.tellEach, ih]; rfl
theorem tellEach_tasks (s : Rm.S α) (what c : Int) (l : List Wk) : (Rm.tellEach s what c l).tasks = s.tasks := by
  induction l generalizing s with
  | nil => rfl
  | cons x l ih => rw [Rm.tellEach, ih]; rfl
set_option maxRecDepth 100000 in
set_option maxHeartbeats 6400000 in
theorem shut_any (h : RoomT w0 C w τ rb N s) (hE : ErrT w0) (hf : Fits C s) (hN : N ≤ 100000) (t : Nat) (ht : t < s.tasks.length) (c : Int) (hx : ∀ x ∈ (Pp.close s.pipes c).wakes, 0 ≤ x.task ∧ x.task < (s.tasks.length : Int)) (hxl : (Pp.close s.pipes c).wakes.length ≤ 1000000) :
    Calls Tryz.prog 80 #[.pointer (some ⟨rb, 0, none⟩), .int .i64 t, .int .i64 c] w fun e w' => e = .returned (.tuple #[]) ∧ Goes w0 C w w' τ rb N (Rm.shutA C.D s t c) := by
  have HCL := Lib.hid (roomclose_any h hN c)
  have hlt : 0 < w0.heap.size := block_lt_of_cell hE
  have HE : Hid (∀ W, Below w0.heap.size w0 W → ErrT W) := Lib.hid fun W hb => hE.below hb hlt
  obtain ⟨⟨st, n, wk, er⟩, hg⟩ : ∃ g, Pp.close s.pipes c = g := ⟨_, rfl⟩
  rw [hg] at HCL hx hxl
  simp only at HCL hx hxl
  have m1 : er = 1 → Rm.shutA C.D s t c = Rm.ends { s with pipes := st } 6 := fun e => by unfold Rm.shutA; simp only [hg]; exact if_pos e
  have m2 : er ≠ 1 → er ≠ 0 → Rm.shutA C.D s t c = Rm.ends { s with pipes := st } (if er = 13 then 5 else 10) := fun e1 e2 => by unfold Rm.shutA; simp only [hg]; rw [if_neg e1, if_pos e2]
  have m3 : er = 0 → Rm.shutA C.D s t c = Rm.resumeEach C.D (Rm.give C.D (Rm.tellEach (Rm.tell { s with pipes := st } t 6 c) 7 c wk) t 0 0) wk := fun e => by unfold Rm.shutA; simp only [hg]; rw [if_neg (by omega), if_neg (by omega)]
  generalize Rm.shutA C.D s t c = r at *
  have M1 := Lib.hid m1
  have M2 := Lib.hid m2
  have M3 := Lib.hid m3
  have HF := Lib.hid hf
  have HX := Lib.hid hx
  have HXL := Lib.hid hxl
  have e0 := nq_none
  have e1 := nq_no
  have ht5 := hf.tasks
  clear h hE hlt hg m1 m2 m3 hf hx hxl
  by_cases hz : er = 0
  · subst hz
    obtain rfl := M3.out rfl
    clear M1 M2 M3
    go_enter Tryz.func80, Tryz.ntmps80
    go_wp2_with fail
    refine HCL.out.mono ?_
    rintro e w2 ⟨vw, rfl, hp2⟩
    rw [show errV 0 = .nilIface from rfl]
    obtain ⟨τ2, hT2, hf2, hv2⟩ := hp2.ex
    have HC0 := Lib.hid (tell_nil w2)
    have HC1 := Lib.hid (tell_any hT2 (by have := HF.out.events; show s.events.length ≤ _; omega) t 6 c)
    have HN1 : Hid (∀ w3, Goes w0 C w2 w3 τ2 rb N (Rm.tell { s with pipes := st } t 6 c) → Pend w0 C w w3 τ rb N (Rm.tell { s with pipes := st } t 6 c) vw wk) := Lib.hid fun w3 hg => hp2.then hf2 hv2 hg
    clear hp2 hT2 hf2 hv2
    go_wp2_with fail
    refine HC0.out.mono ?_
    rintro e w3 ⟨rfl, rfl⟩
    go_wp2_with fail
    refine HC1.out.mono ?_
    rintro e w3 ⟨rfl, hg3⟩
    have hp3 := HN1.out _ hg3
    obtain ⟨τ3, hT3, hf3, hv3⟩ := hp3.ex
    have HC2 := Lib.hid (tellEach_any hT3 hp3.wks (fun b _ => hv3 b) (by have := HF.out.events; have := HXL.out; show (s.events ++ [_]).length + wk.length ≤ _; rw [List.length_append]; simp only [List.length_singleton]; omega) 7 c)
    have HN2 : Hid (∀ w4, Goes w0 C w3 w4 τ3 rb N (Rm.tellEach (Rm.tell { s with pipes := st } t 6 c) 7 c wk) → Pend w0 C w w4 τ rb N (Rm.tellEach (Rm.tell { s with pipes := st } t 6 c) 7 c wk) vw wk) := Lib.hid fun w4 hg => hp3.then hf3 hv3 hg
    clear hp3 hT3 hf3 hv3 hg3 HN1 HC1
    go_wp2_with fail
    refine HC2.out.mono ?_
    rintro e w4 ⟨rfl, hg4⟩
    have hp4 := HN2.out _ hg4
    obtain ⟨τ4, hT4, hf4, hv4⟩ := hp4.ex
    have hd4 : (Rm.tellEach (Rm.tell { s with pipes := st } t 6 c) 7 c wk).d = s.d := tellEach_d _ _ _ _
    have hk4 : (Rm.tellEach (Rm.tell { s with pipes := st } t 6 c) 7 c wk).tasks = s.tasks := tellEach_tasks _ _ _ _
    have HC3 := Lib.hid (give_any hT4 t (by rw [hd4, HF.out.num]; exact ht) (by rw [hd4, HF.out.num]; omega) (by rw [hd4]; have := HF.out.big; omega) 0 0)
    have HD4 := Lib.hid hd4
    have HK4 := Lib.hid hk4
    clear hd4 hk4
    generalize hs4 : Rm.tellEach (Rm.tell { s with pipes := st } t 6 c) 7 c wk = s4 at *
    have HS4 := Lib.hid hs4
    clear hs4
    have HN3 : Hid (∀ w5, Goes w0 C w4 w5 τ4 rb N (Rm.give C.D s4 t 0 0) → Pend w0 C w w5 τ rb N (Rm.give C.D s4 t 0 0) vw wk) := Lib.hid fun w5 hg => hp4.then hf4 hv4 hg
    clear hp4 hT4 hf4 hv4 hg4 HN2 HC2
    go_wp2_with fail
    refine HC3.out.mono ?_
    rintro e w5 ⟨rfl, hg5⟩
    have hp5 := HN3.out _ hg5
    obtain ⟨τ5, hT5, hf5, hv5⟩ := hp5.ex
    have hn5 : C.num (Rm.give C.D s4 t 0 0).d = s.tasks.length := by show C.num (C.D.give s4.d t 0 0) = _; rw [C.num_give, HD4.out, HF.out.num]
    have hb5 : C.big (Rm.give C.D s4 t 0 0).d ≤ C.big s.d + 1 := by have := C.big_give s4.d t 0 0; rw [HD4.out] at this; show C.big (C.D.give s4.d t 0 0) ≤ _; rw [HD4.out]; exact this
    have hk5 : (Rm.give C.D s4 t 0 0).tasks = s.tasks := HK4.out
    have HC4 := Lib.hid (resumeEach_any hT5 hp5.wks (fun b _ => hv5 b) (by rw [hk5]; exact HX.out) (by rw [hk5]; exact hn5) (by rw [hk5]; omega) (by have := HF.out.big; have := HXL.out; omega))
    have HN4 : Hid (∀ w6, Goes w0 C w5 w6 τ5 rb N (Rm.resumeEach C.D (Rm.give C.D s4 t 0 0) wk) → Goes w0 C w w6 τ rb N (Rm.resumeEach C.D (Rm.give C.D s4 t 0 0) wk)) := Lib.hid fun w6 hg => (hp5.then hf5 hv5 hg).goes
    clear hp5 hT5 hf5 hv5 hg5 hn5 hb5 hk5 HN3 HC3
    go_wp2_with fail
    refine HC4.out.mono ?_
    rintro e w6 ⟨rfl, hg6⟩
    have HG6 : Hid (Goes w0 C w w6 τ rb N (Rm.resumeEach C.D (Rm.give C.D (Rm.tellEach (Rm.tell { s with pipes := st } t 6 c) 7 c wk) t 0 0) wk)) := Lib.hid (by rw [HS4.out]; exact HN4.out _ hg6)
    clear hg6
    go_wp2_with fail
    go_end0
    exact ⟨rfl, HG6.out⟩
  · have hev : errV er = .iface 37 (.int .i64 er) := if_neg hz
    rw [hev] at HCL
    by_cases h1 : er = 1
    · subst h1
      obtain rfl := M1.out rfl
      clear M1 M2 M3 hz hev
      go_enter Tryz.func80, Tryz.ntmps80
      go_wp2_with fail
      refine HCL.out.mono ?_
      rintro e w2 ⟨vw, rfl, hp2⟩
      obtain ⟨τ2, hT2, hf2, -⟩ := hp2.ex
      have HC0 := Lib.hid (tell_errno 1 w2 (HE.out _ hT2.bel))
      have HT2 := Lib.hid hT2
      have HK2 := Lib.hid hp2.keep
      have HF2 := Lib.hid hf2
      clear hp2 hT2 hf2
      go_wp2_with fail
      refine HC0.out.mono ?_
      rintro e w3 ⟨rfl, hb3⟩
      have hk3 : Keeps (fun _ => False) w2 w3 := Keeps.of_new hb3
      obtain ⟨V3, l3, hR3⟩ := HT2.out.new hk3
      have c1 := hR3.c1
      have z1 := hR3.z 1
      have HG := Lib.hid (((hR3.goes_ends 6).first hk3).trans HK2.out HF2.out)
      clear hR3 hb3 hk3
      go_wp2_with fail
      go_end0
      exact ⟨rfl, HG.out⟩
    · have m2 := M2.out h1 hz
      obtain ⟨en, hen⟩ : ∃ en : Int, en = (if er = 13 then 5 else 10) := ⟨_, rfl⟩
      rw [← hen] at m2
      have HEN := Lib.hid hen
      subst m2
      clear hen
      have hq : (er == 1) = false := beq_eq_false_iff_ne.2 h1
      clear M1 M2 M3 hev
      go_enter Tryz.func80, Tryz.ntmps80
      go_wp2_with fail
      refine HCL.out.mono ?_
      rintro e w2 ⟨vw, rfl, hp2⟩
      obtain ⟨τ2, hT2, hf2, -⟩ := hp2.ex
      have HC0 := Lib.hid (tell_errno er w2 (HE.out _ hT2.bel))
      have HT2 := Lib.hid hT2
      have HK2 := Lib.hid hp2.keep
      have HF2 := Lib.hid hf2
      clear hp2 hT2 hf2
      go_wp2_with fail
      refine HC0.out.mono ?_
      rintro e w3 ⟨rfl, hb3⟩
      have hk3 : Keeps (fun _ => False) w2 w3 := Keeps.of_new hb3
      have hT3 := HT2.out.new hk3
      have HC1 : Hid (Calls Tryz.prog 107 #[.iface 37 (.int .i64 er)] w3 fun e w' => e = .returned (.int .i64 en) ∧ Below w3.heap.size w3 w') := Lib.hid (by
        have h9 := wrong_any er w3 (HE.out _ hT3.bel)
        rw [← HEN.out] at h9
        exact h9)
      have HT3 := Lib.hid hT3
      have HK3 := Lib.hid hk3
      clear hb3 hk3 hT3
      go_wp2_with fail
      refine HC1.out.mono ?_
      rintro e w4 ⟨rfl, hb4⟩
      have hk4 : Keeps (fun _ => False) w3 w4 := Keeps.of_new hb4
      obtain ⟨V4, l4, hR4⟩ := HT3.out.new hk4
      have c1 := hR4.c1
      have z1 := hR4.z 1
      have HG := Lib.hid ((((hR4.goes_ends en).first hk4).first HK3.out).trans HK2.out HF2.out)
      clear hR4 hb4 hk4
      go_wp2_with fail
      go_end0
      exact ⟨rfl, HG.out⟩
end
end Go.Proofs.YtnjdmijcoadidaaGreatDoor

namespace Go.Proofs.YtnjdmijcoadidaaGreatDoor
open Go.RowKit Go.Maps Pp

theorem other_else (m : Nat) : ∀ (l : List Tk) (k : Nat) (o : Int), 0 ≤ (other m l k o).1 → (other m l k o).1 = o ∨ ∃ (j : Nat) (x : Tk), (other m l k o).1 = ((k + j : Nat) : Int) ∧ l[j]? = some x ∧ x.what = 40 := by
  intro l
  induction l with
  | nil => intro k o _; exact Or.inl rfl
  | cons t l ih =>
    intro k o h
    rw [other] at h ⊢
    by_cases h40 : t.what = 40
    · rw [if_pos h40] at h ⊢
      by_cases ho : 0 ≤ o
      · rw [if_pos ho] at h
        exact absurd h (by decide)
      · rw [if_neg ho] at h ⊢
        right
        rcases ih (k + 1) (k : Int) h with e | ⟨j, x, e, h1, h2⟩
        · exact ⟨0, t, by rw [e]; simp, rfl, h40⟩
        · exact ⟨j + 1, x, by rw [e]; congr 1; omega, by simpa using h1, h2⟩
    · rw [if_neg h40] at h ⊢
      by_cases h2 : t.what ≠ 3 ∧ t.what ≠ 10
      · rw [if_pos h2] at h
        exact absurd h (by decide)
      · rw [if_neg h2] at h ⊢
        by_cases h3 : may m t.chan = false
        · rw [if_pos h3] at h
          exact absurd h (by decide)
        · rw [if_neg h3] at h ⊢
          rcases ih (k + 1) o h with e | ⟨j, x, e, h1, h2⟩
          · exact Or.inl e
          · exact Or.inr ⟨j + 1, x, by rw [e]; congr 1; omega, by simpa using h1, h2⟩
theorem other_may (m : Nat) : ∀ (l : List Tk) (k : Nat) (o : Int), (other m l k o).2 = 0 → ∀ x ∈ l, x.what = 40 ∨ may m x.chan = true := by
  intro l
  induction l with
  | nil => intro k o _ x hx; cases hx
  | cons t l ih =>
    intro k o h x hx
    rw [other] at h
    by_cases h40 : t.what = 40
    · rw [if_pos h40] at h
      by_cases ho : 0 ≤ o
      · rw [if_pos ho] at h
        exact absurd h (by decide)
      · rw [if_neg ho] at h
        rcases List.mem_cons.1 hx with rfl | hx
        · exact Or.inl h40
        · exact ih _ _ h x hx
    · rw [if_neg h40] at h
      by_cases h2 : t.what ≠ 3 ∧ t.what ≠ 10
      · rw [if_pos h2] at h
        exact absurd h (by decide)
      · rw [if_neg h2] at h
        by_cases h3 : may m t.chan = false
        · rw [if_pos h3] at h
          exact absurd h (by decide)
        · rw [if_neg h3] at h
          rcases List.mem_cons.1 hx with rfl | hx
          · exact Or.inr (by simpa using h3)
          · exact ih _ _ h x hx
/-- Which of the talks was done. -/
theorem talk_case {st : St} {t : Int} {l : List Tk} {draw : Int} (he : (Pp.talk st t l draw).err = 0) (hw : (Pp.talk st t l draw).waits = false) : ∃ (k : Nat) (x : Tk), (Pp.talk st t l draw).case = (k : Nat) ∧ l[k]? = some x ∧ (x.what = 40 ∨ may st.chs.length x.chan = true) := by
  unfold Pp.talk at he hw ⊢
  by_cases h1 : (st.asks t).isSome = true
  · rw [if_pos h1] at he; exact absurd he (by simp)
  rw [if_neg h1] at he hw ⊢
  by_cases h2 : 6 < l.length
  · rw [if_pos h2] at he; exact absurd he (by simp)
  rw [if_neg h2] at he hw ⊢
  by_cases h3 : (other st.chs.length l 0 (-1)).2 ≠ 0
  · rw [if_pos h3] at he; exact absurd he h3
  rw [if_neg h3] at he hw ⊢
  have hgood := other_may _ _ _ _ (Classical.not_not.1 h3)
  by_cases h4 : 0 < (frees st.chs l 0).length
  · rw [if_pos h4] at he hw ⊢
    simp only at he hw ⊢
    generalize hk : (frees st.chs l 0).getD (drawn draw (frees st.chs l 0).length) 0 = k at *
    have hd : drawn draw (frees st.chs l 0).length < (frees st.chs l 0).length := by
      unfold drawn
      have q1 := Int.emod_nonneg draw (b := ((frees st.chs l 0).length : Int)) (by omega)
      have q2 := Int.emod_lt_of_pos draw (b := ((frees st.chs l 0).length : Int)) (by omega)
      omega
    have hm : k ∈ frees st.chs l 0 := by
      rw [← hk, List.getD_eq_getElem?_getD, List.getElem?_eq_getElem hd]
      exact List.getElem_mem hd
    obtain ⟨_, x, hx, _⟩ := mem_frees hm
    rw [Nat.sub_zero] at hx
    by_cases h5 : (doT st (l.getD k ⟨0, 0, 0⟩)).err ≠ 0
    · rw [if_pos h5] at he; exact absurd he h5
    · rw [if_neg h5]
      exact ⟨k, x, rfl, hx, hgood x (List.mem_of_getElem? hx)⟩
  · rw [if_neg h4] at he hw ⊢
    by_cases h5 : 0 ≤ (other st.chs.length l 0 (-1)).1
    · rw [if_pos h5]
      rcases other_else _ _ _ _ h5 with e | ⟨j, x, e, h6, h7⟩
      · rw [e] at h5; exact absurd h5 (by decide)
      · exact ⟨j, x, by rw [Nat.zero_add] at e; exact e, h6, Or.inl h7⟩
    · rw [if_neg h5] at hw
      exact absurd hw (by simp)
section
variable {α : Type} {w0 : World} {C : DoerW α w0} {w w' w1 w2 : World} {τ τ' : Nat → RR} {rb N N' N1 N2 : Nat} {s s' s1 s2 : Rm.S α} {V : RK → Value} {l : List Hp.E}
theorem lenV_had (s : Rm.S α) (c : Int) (h : may s.pipes.chs.length c = true) : (lenV s.pipes c).1 = (Rm.had s c : Nat) := by
  unfold lenV
  rw [if_neg (by rw [h]; decide)]; rfl
theorem lenV_nat (st : St) (c : Int) : ∃ k : Nat, (lenV st c).1 = (k : Nat) := by
  unfold lenV
  split
  · exact ⟨0, rfl⟩
  · exact ⟨_, rfl⟩
theorem tellTalk_else (s : Rm.S α) (t : Nat) {x : Tk} (h : x.what = 40) (k : Nat) (wk : List Wk) : Rm.tellTalk s t x k wk = s := if_pos h
theorem tellTalk_d (s : Rm.S α) (t : Nat) (x : Tk) (k : Nat) (wk : List Wk) : (Rm.tellTalk s t x k wk).d = s.d := by
  unfold Rm.tellTalk
  split
  · rfl
  split
  · exact (tellEach_d _ _ _ _).trans rfl
  split
  · exact (tellEach_d _ _ _ _).trans rfl
  split
  · exact tellEach_d _ _ _ _
  · rfl
theorem tellTalk_tasks (s : Rm.S α) (t : Nat) (x : Tk) (k : Nat) (wk : List Wk) : (Rm.tellTalk s t x k wk).tasks = s.tasks := by
  unfold Rm.tellTalk
  split
  · rfl
  split
  · exact (tellEach_tasks _ _ _ _).trans rfl
  split
  · exact (tellEach_tasks _ _ _ _).trans rfl
  split
  · exact tellEach_tasks _ _ _ _
  · rfl
theorem roomtalk_any (h : RoomT w0 C w τ rb N s) (hN : N ≤ 100000) (t : Nat) (ht : t ≤ 1000000) {v : Value} {tl : List Tk} (hl : TalksAt w v tl) (hvo : 0 < tl.length → ∀ b, v.ownBlock = some b → τ b = .free) (draw : Int) (hd : -9223372036854775808 ≤ draw ∧ draw ≤ 9223372036854775807) :
    Calls Tryz.prog 106 #[.pointer (some ⟨rb, 8, none⟩), .int .i64 t, v, .int .i64 draw] w fun e w' => ∃ vw, e = .returned (.tuple #[.agg #[.int .i64 (Pp.talk s.pipes t tl draw).case, .int .i64 (Pp.talk s.pipes t tl draw).n], vw, .bool (Pp.talk s.pipes t tl draw).waits, errV (Pp.talk s.pipes t tl draw).err]) ∧
      Pend w0 C w w' τ rb (N + 1) { s with pipes := (Pp.talk s.pipes t tl draw).st } vw (Pp.talk s.pipes t tl draw).wakes := by
  obtain ⟨V, l, hr⟩ := h
  refine (talk_any0 hr.pp hN t (wf_small _ (by omega)) hl (fun h0 b hb => by show (τ b).role = _; rw [hvo h0 b hb]; rfl) draw hd).mono ?_
  rintro e w' ⟨vw, rfl, ⟨⟨ρ', h1, h2, h3⟩, h4, h5⟩⟩
  refine ⟨vw, rfl, ⟨⟨rolePipe τ ρ' w.heap.size, (hr.piped h1 (fun b hb => ?_) h5).bare, fun b hb e => rolePipe_old hb e, fun b hb => ?_⟩, wksAt_of h4, fun b hb => (World.ownsRow.lt h4 b hb).2, h5.mono fun b _ e e2 => by rw [e2] at e; exact e rfl⟩⟩
  · rcases Nat.lt_or_ge b w.heap.size with h6 | h6
    · rw [h2 b h6] at hb; exact Or.inl hb
    · exact Or.inr h6
  · have h6 := (World.ownsRow.lt h4 b hb).1
    have h7 : τ b = .free := Classical.byContradiction fun e => by have := hr.dom b e; omega
    unfold rolePipe
    rw [h7]
    simp only
    rw [if_pos h6, h3 b hb]
theorem ansWorld (w : World) (a b : Value) : Keeps (fun _ => False) w (w.alloc (.cells #[a, b] 124)) ∧ (w.alloc (.cells #[a, b] 124)).cell? ⟨w.heap.size, 0, none⟩ = some a ∧ (w.alloc (.cells #[a, b] 124)).cell? ⟨w.heap.size, 1, none⟩ = some b := by
  refine ⟨(Keeps.refl (fun _ => False) w).alloc _, ?_, ?_⟩
  · rw [World.cell?_alloc_at _ _ _ _ rfl]; rfl
  · rw [World.cell?_alloc_at _ _ _ _ rfl]; rfl
set_option maxRecDepth 100000 in
set_option maxHeartbeats 6400000 in
theorem talkA_any (h : RoomT w0 C w τ rb N s) (hE : ErrT w0) (hf : Fits C s) (hN : N ≤ 100000) (t : Nat) (ht : t < s.tasks.length) {vc : Value} {tl : List Tk} (hl : TalksAt w vc tl) (hvo : 0 < tl.length → ∀ b, vc.ownBlock = some b → τ b = .free) (hll : tl.length ≤ 100000) (draw : Int) (hd : -9223372036854775808 ≤ draw ∧ draw ≤ 9223372036854775807)
    (hx : ∀ x ∈ (Pp.talk s.pipes t tl draw).wakes, 0 ≤ x.task ∧ x.task < (s.tasks.length : Int)) (hxl : (Pp.talk s.pipes t tl draw).wakes.length ≤ 1000000) :
    Calls Tryz.prog 79 #[.pointer (some ⟨rb, 0, none⟩), .int .i64 t, vc, .int .i64 draw] w fun e w' => e = .returned (.tuple #[]) ∧ Goes w0 C w w' τ rb (N + 1) (Rm.talkA C.D s t tl draw) := by
  have HCN := Lib.hid (counts_any h hl hll)
  have hlt : 0 < w0.heap.size := block_lt_of_cell hE
  have HE : Hid (∀ W, Below w0.heap.size w0 W → ErrT W) := Lib.hid fun W hb => hE.below hb hlt
  have ht5 := hf.tasks
  have hTK : ∀ W, Keeps (fun _ => False) w W → _ := fun W hk => roomtalk_any (h.new hk) hN t (by omega) (hl.keeps hk fun _ _ e => e) hvo draw hd
  have hcase := talk_case (st := s.pipes) (t := (t : Int)) (l := tl) (draw := draw)
  obtain ⟨⟨st, k, n, wk, wt, er⟩, hg⟩ : ∃ g, Pp.talk s.pipes t tl draw = g := ⟨_, rfl⟩
  rw [hg] at hTK hx hxl hcase
  simp only at hTK hx hxl hcase
  have m1 : er ≠ 0 → Rm.talkA C.D s t tl draw = Rm.ends { s with pipes := st } (if er = 13 then 5 else 10) := fun e => by unfold Rm.talkA; simp only [hg]; exact if_pos e
  have m2 : er = 0 → wt = true → Rm.talkA C.D s t tl draw = Rm.be { s with pipes := st } t 1 := fun e1 e2 => by unfold Rm.talkA; simp only [hg]; rw [if_neg (by omega), if_pos e2]
  have m3 : er = 0 → wt = false → Rm.talkA C.D s t tl draw = Rm.resumeEach C.D (Rm.give C.D (Rm.tellTalk { s with pipes := st } t (tl.getD k.toNat ⟨0, 0, 0⟩) (Rm.had s (tl.getD k.toNat ⟨0, 0, 0⟩).chan) wk) t k n) wk := fun e1 e2 => by unfold Rm.talkA; simp only [hg]; rw [if_neg (by omega), if_neg (by rw [e2]; decide)]
  generalize Rm.talkA C.D s t tl draw = r at *
  have M1 := Lib.hid m1
  have M2 := Lib.hid m2
  have M3 := Lib.hid m3
  have HF := Lib.hid hf
  have HX := Lib.hid hx
  have HXL := Lib.hid hxl
  have HTK := Lib.hid hTK
  have HCASE := Lib.hid hcase
  have HL := Lib.hid hl
  have HVO := Lib.hid hvo
  have HH := Lib.hid h
  obtain ⟨ao, cap, rfl, hc1, hc2⟩ := hl.slice
  have e0 := nq_none
  have e1 := nq_no
  have HGS := Lib.hid hg
  clear h hE hlt hg m1 m2 m3 hf hx hxl hTK hcase hvo hl
  obtain ⟨ln, hln⟩ : ∃ ln, ln = tl.length := ⟨_, rfl⟩
  have HLN := Lib.hid hln
  rw [← hln] at hc1 HCN HTK HL HVO ⊢
  unfold maxLen at hc2
  clear hln
  by_cases hz : er = 0
  · subst hz
    have hev : errV 0 = .nilIface := rfl
    rw [hev] at HTK
    clear hev
    cases wt
    · obtain rfl := M3.out rfl rfl
      clear M1 M2 M3
      obtain ⟨kk, x, hkk, hxx, hgood⟩ := HCASE.out rfl rfl
      subst hkk
      clear HCASE
      obtain ⟨xw, xc, xn⟩ := x
      have hkl : kk < tl.length := (List.getElem?_eq_some_iff.1 hxx).1
      have hgx : tl.getD (kk : Int).toNat ⟨0, 0, 0⟩ = ⟨xw, xc, xn⟩ := by
        rw [Int.toNat_natCast, List.getD_eq_getElem?_getD, hxx]; rfl
      rw [hgx]
      obtain ⟨m, hm⟩ := lenV_nat s.pipes xc
      have hmh : Rm.tellTalk { s with pipes := st } t ⟨xw, xc, xn⟩ (Rm.had s xc) wk = Rm.tellTalk { s with pipes := st } t ⟨xw, xc, xn⟩ m wk := by
        rcases hgood with e | e
        · rw [tellTalk_else _ _ e, tellTalk_else _ _ e]
        · have h9 := lenV_had s xc e
          rw [hm] at h9
          rw [show m = Rm.had s xc by omega]
      rw [show (⟨xw, xc, xn⟩ : Tk).chan = xc from rfl, hmh]
      have hlv : (lensV s.pipes tl).getD kk 0 = (m : Int) := by
        unfold lensV
        rw [List.getD_eq_getElem?_getD, List.getElem?_map, hxx]; exact hm
      have hlen : (lensV s.pipes tl).length = tl.length := by unfold lensV; rw [List.length_map]
      have HLV := Lib.hid hlv
      have HLEN := Lib.hid hlen
      have HXX := Lib.hid hxx
      have hkn : (0 : Int) ≤ (kk : Int) ∧ (kk : Int) < (ln : Int) := by rw [HLN.out]; omega
      have HKL := Lib.hid hkl
      clear hgx hmh hlv hlen hxx hm hgood hkl
      generalize hs4 : Rm.tellTalk { s with pipes := st } t ⟨xw, xc, xn⟩ m wk = s4
      have hd4 : s4.d = s.d := by rw [← hs4]; exact tellTalk_d _ _ _ _ _
      have ht4 : s4.tasks = s.tasks := by rw [← hs4]; exact tellTalk_tasks _ _ _ _ _
      have HS4 := Lib.hid hs4
      have HD4 := Lib.hid hd4
      have HT4 := Lib.hid ht4
      clear hs4 hd4 ht4
      go_enter Tryz.func79, Tryz.ntmps79
      go_wp2_with fail
      refine HCN.out.mono ?_
      rintro e w2 ⟨u, rfl, ho2, hb2⟩
      have hk2 : Keeps (fun _ => False) w w2 := Keeps.of_new hb2
      have HK2 := Lib.hid hk2
      have HO2 := Lib.hid ho2
      have HC1 : Hid (Calls Tryz.prog 106 #[.pointer (some ⟨rb, 8, none⟩), .int .i64 t, .slice ao ln cap, .int .i64 draw] w2 fun e w' => ∃ vw, e = .returned (.tuple #[.agg #[.int .i64 kk, .int .i64 n], vw, .bool false, .nilIface]) ∧ Pend w0 C w2 w' τ rb (N + 1) { s with pipes := st } vw wk) := Lib.hid (HTK.out w2 hk2)
      clear hk2 ho2 hb2 HCN HTK
      go_wp2_with fail
      refine HC1.out.mono ?_
      rintro e w3 ⟨vw, rfl, hp3⟩
      have a0 : (w3.alloc (.cells #[.int .i64 0, .int .i64 0] 124)).cell? ⟨w3.heap.size, 0, none⟩ = some (.int .i64 0) := by rw [World.cell?_alloc_at _ _ _ _ rfl]; rfl
      have a1 : (w3.alloc (.cells #[.int .i64 0, .int .i64 0] 124)).cell? ⟨w3.heap.size, 1, none⟩ = some (.int .i64 0) := by rw [World.cell?_alloc_at _ _ _ _ rfl]; rfl
      have z0 : (w3.alloc (.cells #[.int .i64 0, .int .i64 0] 124)).frozen? ⟨w3.heap.size, 0, none⟩ = false := by rw [World.frozen?_alloc_at _ _ _ _ rfl]
      have z1 : (w3.alloc (.cells #[.int .i64 0, .int .i64 0] 124)).frozen? ⟨w3.heap.size, 1, none⟩ = false := by rw [World.frozen?_alloc_at _ _ _ _ rfl]
      obtain ⟨hk5, q0, q1⟩ := ansWorld w3 (.int .i64 (kk : Int)) (.int .i64 n)
      have hp5 := hp3.new hk5
      obtain ⟨τ3, hT3, hf3, hv3⟩ := hp3.ex
      have hT5 := hT3.new hk5
      have hfab : τ3 w3.heap.size = .free := by
        obtain ⟨V, l, hr⟩ := hT3
        exact Classical.byContradiction fun e => by have := hr.dom _ e; omega
      have HP5 := Lib.hid hp5
      have HT5 := Lib.hid hT5
      have HF3 := Lib.hid hf3
      have HV3 := Lib.hid hv3
      have HK5 := Lib.hid (hp3.keep.trans' hk5 fun _ _ e => e.elim)
      have HFAB := Lib.hid hfab
      clear hp3 hk5 hp5 hT3 hf3 hv3 hT5 hfab HC1
      go_upto_region 5 with fail
      clear a0 a1 z0 z1
      generalize w3.alloc (.cells #[.int .i64 kk, .int .i64 n] 124) = w5 at *
      generalize w3.heap.size = ab at *
      obtain ⟨b, o, hao, hbl, p0, p1, p2⟩ := HL.out.at HXX.out
      subst hao
      simp only at p0 p1 p2
      have hfb0 : τ b = .free := HVO.out (by have := (List.getElem?_eq_some_iff.1 HXX.out).1; have := HLN.out; omega) b rfl
      have r0 := HK5.out.cell_of (HK2.out.cell_of p0 id) (by rw [hfb0]; simp)
      have r1 := HK5.out.cell_of (HK2.out.cell_of p1 id) (by rw [hfb0]; simp)
      have r2 := HK5.out.cell_of (HK2.out.cell_of p2 id) (by rw [hfb0]; simp)
      have hob : OwnI w2 0 u (lensV s.pipes tl) := own_mono HO2.out (Nat.zero_le _)
      obtain ⟨g, ucap, rfl, hu1, hu2, hgl, -, hucell⟩ := row_open hob (by rw [HLEN.out]; have := HKL.out; omega)
      have hg0 : w.heap.size ≤ g := (World.ownsRow.lt HO2.out g rfl).1
      have hfg : τ g = .free := by
        obtain ⟨V, l, hr⟩ := HH.out
        exact Classical.byContradiction fun e => by have := hr.dom _ e; omega
      have r3 : w5.cell? ⟨g, kk, none⟩ = some (.int .i64 (m : Int)) := by
        have h9 := hucell kk _ (ints_at (by rw [HLEN.out]; exact HKL.out))
        rw [HLV.out] at h9
        exact HK5.out.cell_of h9 (by rw [hfg]; simp)
      have HFG : Hid (τ3 g = .free) := Lib.hid (HF3.out g hgl hfg)
      have HFB : Hid (τ3 b = .free) := Lib.hid (HF3.out b (Nat.lt_of_lt_of_le hbl HK2.out.size) hfb0)
      have hul : (lensV s.pipes tl).length = ln := by rw [HLEN.out, HLN.out]
      rw [hul] at hu1 ⊢
      unfold maxLen at hu2
      have HC2 : Hid (Calls Tryz.prog 108 #[.pointer (some ⟨rb, 0, none⟩), .int .i64 t, .agg #[.int .i64 xw, .int .i64 xc, .int .i64 xn], .int .i64 (m : Int), vw] w5.drew fun e w' => e = .returned (.tuple #[]) ∧ Goes w0 C w5.drew w' τ3 rb (N + 1) s4) := Lib.hid (by
        have h9 := tellTalk_any (HT5.out.new (keeps_drew0 w5)) t ⟨xw, xc, xn⟩ m (HP5.out.wks.keeps (keeps_drew0 w5) fun _ _ _ e => e) HV3.out (fun b hb => HP5.out.lt b hb) (by have := HF.out.events; have := HXL.out; show s.events.length + wk.length + 1 ≤ _; omega)
        rw [HS4.out] at h9
        exact h9)
      clear hob hg0 hfg hucell hgl hbl hul p0 p1 p2 hfb0
      go_upto_region 2 with fail
      refine wp_region_held_drew (S := (fun W : World => W.cell? ⟨ab, 0, none⟩ = some (.int .i64 (kk : Int)) ∧ W.cell? ⟨ab, 1, none⟩ = some (.int .i64 n) ∧ W.cell? ⟨b, o + kk * 3, none⟩ = some (.int .i64 xw) ∧ W.cell? ⟨b, o + kk * 3 + 1, none⟩ = some (.int .i64 xc) ∧ W.cell? ⟨b, o + kk * 3 + 2, none⟩ = some (.int .i64 xn) ∧ W.cell? ⟨g, kk, none⟩ = some (.int .i64 (m : Int)))) (by kernel_rfl) ⟨by simp only [World.cell?_drew]; assumption, by simp only [World.cell?_drew]; assumption, by simp only [World.cell?_drew]; assumption, by simp only [World.cell?_drew]; assumption, by simp only [World.cell?_drew]; assumption, by simp only [World.cell?_drew]; assumption⟩ (fun hHeld => ?_)
      refine wpAnyH_take (i := 0) (oi := { dst := some 28, op := _, type := _, pos := _, after := _, guard := _ }) (v := .pointer (some ⟨rb, 0, none⟩)) rfl (by kernel_rfl) (by kernel_rfl) (by kernel_rfl) (fun _ _ _ h => h) (Or.inl ⟨by rfl, ?_⟩) hHeld ?_
      · intro W9 hSW
        (try dsimp only at hSW)
        go_simp
      try simp only [Act.put, List.setIfInBounds_toArray, List.set_cons_zero, List.set_cons_succ]
      refine wpAnyH_take (i := 1) (oi := { dst := some 29, op := _, type := _, pos := _, after := _, guard := _ }) (v := .int .i64 t) rfl (by kernel_rfl) (by kernel_rfl) (by kernel_rfl) (fun _ _ _ h => h) (Or.inl ⟨by rfl, ?_⟩) hHeld ?_
      · intro W9 hSW
        (try dsimp only at hSW)
        go_simp
      try simp only [Act.put, List.setIfInBounds_toArray, List.set_cons_zero, List.set_cons_succ]
      refine wpAnyH_take (i := 2) (oi := { dst := some 30, op := _, type := _, pos := _, after := _, guard := _ }) (v := .slice (some ⟨b, o, none⟩) ln cap) rfl (by kernel_rfl) (by kernel_rfl) (by kernel_rfl) (fun _ _ _ h => h) (Or.inl ⟨by rfl, ?_⟩) hHeld ?_
      · intro W9 hSW
        (try dsimp only at hSW)
        go_simp
      try simp only [Act.put, List.setIfInBounds_toArray, List.set_cons_zero, List.set_cons_succ]
      refine wpAnyH_take (i := 3) (oi := { dst := some 31, op := _, type := _, pos := _, after := _, guard := _ }) (v := .pointer (some ⟨ab, 0, none⟩)) rfl (by kernel_rfl) (by kernel_rfl) (by kernel_rfl) (fun _ _ _ h => h) (Or.inl ⟨by rfl, ?_⟩) hHeld ?_
      · intro W9 hSW
        (try dsimp only at hSW)
        go_simp
      try simp only [Act.put, List.setIfInBounds_toArray, List.set_cons_zero, List.set_cons_succ]
      refine wpAnyH_take (i := 4) (oi := { dst := some 32, op := _, type := _, pos := _, after := _, guard := _ }) (v := .int .i64 kk) rfl (by kernel_rfl) (by kernel_rfl) (by kernel_rfl) (fun _ _ _ h => h) (Or.inl ⟨by rfl, ?_⟩) hHeld ?_
      · intro W9 hSW
        (try dsimp only at hSW)
        go_simp
      try simp only [Act.put, List.setIfInBounds_toArray, List.set_cons_zero, List.set_cons_succ]
      refine wpAnyH_take (i := 5) (oi := { dst := some 33, op := _, type := _, pos := _, after := _, guard := _ }) (v := .pointer (some ⟨b, o + kk * 3, none⟩)) rfl (by kernel_rfl) (by kernel_rfl) (by kernel_rfl) (fun _ _ _ h => h) (Or.inl ⟨by rfl, ?_⟩) hHeld ?_
      · intro W9 hSW
        (try dsimp only at hSW)
        go_simp
      try simp only [Act.put, List.setIfInBounds_toArray, List.set_cons_zero, List.set_cons_succ]
      refine wpAnyH_take (i := 6) (oi := { dst := some 34, op := _, type := _, pos := _, after := _, guard := _ }) (v := .agg #[.int .i64 xw, .int .i64 xc, .int .i64 xn]) rfl (by kernel_rfl) (by kernel_rfl) (by kernel_rfl) (fun _ _ _ h => h) (Or.inl ⟨by rfl, ?_⟩) hHeld ?_
      · intro W9 hSW
        (try dsimp only at hSW)
        go_simp
      try simp only [Act.put, List.setIfInBounds_toArray, List.set_cons_zero, List.set_cons_succ]
      refine wpAnyH_take (i := 7) (oi := { dst := some 35, op := _, type := _, pos := _, after := _, guard := _ }) (v := .slice (some ⟨g, 0, none⟩) ln ucap) rfl (by kernel_rfl) (by kernel_rfl) (by kernel_rfl) (fun _ _ _ h => h) (Or.inl ⟨by rfl, ?_⟩) hHeld ?_
      · intro W9 hSW
        (try dsimp only at hSW)
        go_simp
      try simp only [Act.put, List.setIfInBounds_toArray, List.set_cons_zero, List.set_cons_succ]
      refine wpAnyH_take (i := 8) (oi := { dst := some 36, op := _, type := _, pos := _, after := _, guard := _ }) (v := .pointer (some ⟨ab, 0, none⟩)) rfl (by kernel_rfl) (by kernel_rfl) (by kernel_rfl) (fun _ _ _ h => h) (Or.inl ⟨by rfl, ?_⟩) hHeld ?_
      · intro W9 hSW
        (try dsimp only at hSW)
        go_simp
      try simp only [Act.put, List.setIfInBounds_toArray, List.set_cons_zero, List.set_cons_succ]
      refine wpAnyH_take (i := 9) (oi := { dst := some 37, op := _, type := _, pos := _, after := _, guard := _ }) (v := .int .i64 kk) rfl (by kernel_rfl) (by kernel_rfl) (by kernel_rfl) (fun _ _ _ h => h) (Or.inl ⟨by rfl, ?_⟩) hHeld ?_
      · intro W9 hSW
        (try dsimp only at hSW)
        go_simp
      try simp only [Act.put, List.setIfInBounds_toArray, List.set_cons_zero, List.set_cons_succ]
      refine wpAnyH_take (i := 10) (oi := { dst := some 38, op := _, type := _, pos := _, after := _, guard := _ }) (v := .pointer (some ⟨g, kk, none⟩)) rfl (by kernel_rfl) (by kernel_rfl) (by kernel_rfl) (fun _ _ _ h => h) (Or.inl ⟨by rfl, ?_⟩) hHeld ?_
      · intro W9 hSW
        (try dsimp only at hSW)
        go_simp
      try simp only [Act.put, List.setIfInBounds_toArray, List.set_cons_zero, List.set_cons_succ]
      refine wpAnyH_take (i := 11) (oi := { dst := some 39, op := _, type := _, pos := _, after := _, guard := _ }) (v := .int .i64 m) rfl (by kernel_rfl) (by kernel_rfl) (by kernel_rfl) (fun _ _ _ h => h) (Or.inl ⟨by rfl, ?_⟩) hHeld ?_
      · intro W9 hSW
        (try dsimp only at hSW)
        go_simp
      try simp only [Act.put, List.setIfInBounds_toArray, List.set_cons_zero, List.set_cons_succ]
      refine wpAnyH_take (i := 12) (oi := { dst := some 40, op := _, type := _, pos := _, after := _, guard := _ }) (v := vw) rfl (by kernel_rfl) (by kernel_rfl) (by kernel_rfl) (fun _ _ _ h => h) (Or.inl ⟨by rfl, ?_⟩) hHeld ?_
      · intro W9 hSW
        (try dsimp only at hSW)
        go_simp
      try simp only [Act.put, List.setIfInBounds_toArray, List.set_cons_zero, List.set_cons_succ]
      refine wpAnyH_ready (rs := [13]) (by kernel_rfl) (by simp) ?_
      refine AllReadyH.cons (o := { dst := some 41, op := _, type := _, pos := _, after := _, guard := _ }) rfl (fun K hK => ?_) AllReadyH.nil
      go_simp
      refine HC2.out.mono ?_
      rintro e w6 ⟨rfl, hg6⟩
      have hS6 : w6.cell? ⟨ab, 0, none⟩ = some (.int .i64 (kk : Int)) ∧ w6.cell? ⟨ab, 1, none⟩ = some (.int .i64 n) ∧ w6.cell? ⟨b, o + kk * 3, none⟩ = some (.int .i64 xw) ∧ w6.cell? ⟨b, o + kk * 3 + 1, none⟩ = some (.int .i64 xc) ∧ w6.cell? ⟨b, o + kk * 3 + 2, none⟩ = some (.int .i64 xn) ∧ w6.cell? ⟨g, kk, none⟩ = some (.int .i64 (m : Int)) := ⟨hg6.keep.cell_of (w := w5.drew) q0 (by rw [HFAB.out]; simp), hg6.keep.cell_of (w := w5.drew) q1 (by rw [HFAB.out]; simp), hg6.keep.cell_of (w := w5.drew) r0 (by rw [HFB.out]; simp), hg6.keep.cell_of (w := w5.drew) r1 (by rw [HFB.out]; simp), hg6.keep.cell_of (w := w5.drew) r2 (by rw [HFB.out]; simp), hg6.keep.cell_of (w := w5.drew) r3 (by rw [HFG.out]; simp)⟩
      have HG6 := Lib.hid hg6
      clear hg6
      go_simp
      refine hK.out _ _ hS6 (fun hHeld => ?_)
      clear hK K
      refine wpAnyH_done (by kernel_rfl) ?_ _
      obtain ⟨q0, q1, -⟩ := hHeld
      have hp6 := HP5.out.then HF3.out HV3.out (HG6.out.first (keeps_drew0 w5))
      obtain ⟨τ6, hT6, hf6, hv6⟩ := hp6.ex
      have HC3 := Lib.hid (give_any hT6 t (by rw [HD4.out, HF.out.num]; exact ht) (by rw [HD4.out, HF.out.num]; omega) (by rw [HD4.out]; have := HF.out.big; omega) (kk : Int) n)
      have HN3 : Hid (∀ w7, Goes w0 C w6 w7 τ6 rb (N + 1) (Rm.give C.D s4 t (kk : Int) n) → Pend w0 C w2 w7 τ rb (N + 1) (Rm.give C.D s4 t (kk : Int) n) vw wk) := Lib.hid fun w7 hg => hp6.then hf6 hv6 hg
      clear hp6 hT6 hf6 hv6 hkn r0 r1 r2 r3
      go_wp2_with fail
      refine HC3.out.mono ?_
      rintro e w7 ⟨rfl, hg7⟩
      have hp7 := HN3.out _ hg7
      obtain ⟨τ7, hT7, hf7, hv7⟩ := hp7.ex
      have hn7 : C.num (Rm.give C.D s4 t (kk : Int) n).d = s.tasks.length := by show C.num (C.D.give s4.d t _ _) = _; rw [C.num_give, HD4.out, HF.out.num]
      have hb7 : C.big (Rm.give C.D s4 t (kk : Int) n).d ≤ C.big s.d + 1 := by have := C.big_give s4.d t (kk : Int) n; rw [HD4.out] at this; show C.big (C.D.give s4.d t _ _) ≤ _; rw [HD4.out]; exact this
      have hk7 : (Rm.give C.D s4 t (kk : Int) n).tasks = s.tasks := HT4.out
      have HC4 := Lib.hid (resumeEach_any hT7 hp7.wks (fun b _ => hv7 b) (by rw [hk7]; exact HX.out) (by rw [hk7]; exact hn7) (by rw [hk7]; omega) (by have := HF.out.big; have := HXL.out; omega))
      have HN4 : Hid (∀ w8, Goes w0 C w7 w8 τ7 rb (N + 1) (Rm.resumeEach C.D (Rm.give C.D s4 t (kk : Int) n) wk) → Goes w0 C w w8 τ rb (N + 1) (Rm.resumeEach C.D (Rm.give C.D s4 t (kk : Int) n) wk)) := Lib.hid fun w8 hg => ((hp7.then hf7 hv7 hg).goes).first HK2.out
      clear hp7 hT7 hf7 hv7 hg7 hn7 hb7 hk7 HN3 HC3
      go_wp2_with fail
      refine HC4.out.mono ?_
      rintro e w8 ⟨rfl, hg8⟩
      have HG8 := Lib.hid (HN4.out _ hg8)
      clear hg8
      go_wp2_with fail
      go_end0
      exact ⟨rfl, HG8.out⟩
    · obtain rfl := M2.out rfl rfl
      clear M1 M2 M3 HCASE
      go_enter Tryz.func79, Tryz.ntmps79
      go_wp2_with fail
      refine HCN.out.mono ?_
      rintro e w2 ⟨u, rfl, ho2, hb2⟩
      have hk2 : Keeps (fun _ => False) w w2 := Keeps.of_new hb2
      have HK2 := Lib.hid hk2
      have HO2 := Lib.hid ho2
      have HC1 : Hid (Calls Tryz.prog 106 #[.pointer (some ⟨rb, 8, none⟩), .int .i64 t, .slice ao ln cap, .int .i64 draw] w2 fun e w' => ∃ vw, e = .returned (.tuple #[.agg #[.int .i64 k, .int .i64 n], vw, .bool true, .nilIface]) ∧ Pend w0 C w2 w' τ rb (N + 1) { s with pipes := st } vw wk) := Lib.hid (HTK.out w2 hk2)
      clear hk2 ho2 hb2 HCN HTK
      go_wp2_with fail
      refine HC1.out.mono ?_
      rintro e w3 ⟨vw, rfl, hp3⟩
      have a0 : (w3.alloc (.cells #[.int .i64 0, .int .i64 0] 124)).cell? ⟨w3.heap.size, 0, none⟩ = some (.int .i64 0) := by rw [World.cell?_alloc_at _ _ _ _ rfl]; rfl
      have a1 : (w3.alloc (.cells #[.int .i64 0, .int .i64 0] 124)).cell? ⟨w3.heap.size, 1, none⟩ = some (.int .i64 0) := by rw [World.cell?_alloc_at _ _ _ _ rfl]; rfl
      have z0 : (w3.alloc (.cells #[.int .i64 0, .int .i64 0] 124)).frozen? ⟨w3.heap.size, 0, none⟩ = false := by rw [World.frozen?_alloc_at _ _ _ _ rfl]
      have z1 : (w3.alloc (.cells #[.int .i64 0, .int .i64 0] 124)).frozen? ⟨w3.heap.size, 1, none⟩ = false := by rw [World.frozen?_alloc_at _ _ _ _ rfl]
      obtain ⟨hk5, q0, q1⟩ := ansWorld w3 (.int .i64 k) (.int .i64 n)
      have hp5 := hp3.new hk5
      obtain ⟨τ3, hT3, hf3, hv3⟩ := hp3.ex
      have hT5 := hT3.new hk5
      have hfab : τ3 w3.heap.size = .free := by
        obtain ⟨V, l, hr⟩ := hT3
        exact Classical.byContradiction fun e => by have := hr.dom _ e; omega
      have HP5 := Lib.hid hp5
      have HT5 := Lib.hid hT5
      have HF3 := Lib.hid hf3
      have HV3 := Lib.hid hv3
      have HK5 := Lib.hid (hp3.keep.trans' hk5 fun _ _ e => e.elim)
      have HFAB := Lib.hid hfab
      clear hp3 hk5 hp5 hT3 hf3 hv3 hT5 hfab HC1
      go_upto_region 5 with fail
      clear a0 a1 z0 z1
      generalize w3.alloc (.cells #[.int .i64 k, .int .i64 n] 124) = w5 at *
      generalize w3.heap.size = ab at *
      obtain ⟨V5, l5, hR5⟩ := HT5.out
      obtain ⟨g, cap5, hv, hc5, hc6, hg, hzz, hcell⟩ := row_open (hR5.rv .tasks) (show 0 < s.tasks.length by omega)
      have hv' : V5 .tasks = .slice (some ⟨g, 0, none⟩) s.tasks.length cap5 := hv
      have c2 : w5.cell? ⟨rb, 2, none⟩ = some (.slice (some ⟨g, 0, none⟩) s.tasks.length cap5) := (hR5.cv .tasks).trans (by rw [hv'])
      have ct := hcell t _ (ints_at ht)
      have zt := hzz t
      have htl : (0 : Int) ≤ (t : Int) ∧ (t : Int) < (s.tasks.length : Int) := by omega
      unfold maxLen at hc6
      have HG5 : Hid (Goes w0 C w (w5.setCell ⟨g, t, none⟩ (.int .i64 1)) τ rb (N + 1) (Rm.be { s with pipes := st } t 1)) := Lib.hid (((hR5.goes_be hv' t 1).trans HK5.out HF3.out).first HK2.out)
      obtain ⟨y, hy⟩ : ∃ y, y = s.tasks.getD t 0 := ⟨_, rfl⟩
      have ct' : w5.cell? ⟨g, t, none⟩ = some (.int .i64 y) := by rw [hy]; exact ct
      clear hR5 hv hv' hzz hcell ct hy hg hc5
      go_wp2_with fail
      go_end0
      exact ⟨rfl, HG5.out⟩
  · have hev : errV er = .iface 37 (.int .i64 er) := if_neg hz
    rw [hev] at HTK
    have m1 := M1.out hz
    obtain ⟨en, hen⟩ : ∃ en : Int, en = (if er = 13 then 5 else 10) := ⟨_, rfl⟩
    rw [← hen] at m1
    have HEN := Lib.hid hen
    subst m1
    clear hen hev M1 M2 M3 HCASE
    go_enter Tryz.func79, Tryz.ntmps79
    go_wp2_with fail
    refine HCN.out.mono ?_
    rintro e w2 ⟨u, rfl, ho2, hb2⟩
    have hk2 : Keeps (fun _ => False) w w2 := Keeps.of_new hb2
    have HK2 := Lib.hid hk2
    have HO2 := Lib.hid ho2
    have HC1 : Hid (Calls Tryz.prog 106 #[.pointer (some ⟨rb, 8, none⟩), .int .i64 t, .slice ao ln cap, .int .i64 draw] w2 fun e w' => ∃ vw, e = .returned (.tuple #[.agg #[.int .i64 k, .int .i64 n], vw, .bool wt, .iface 37 (.int .i64 er)]) ∧ Pend w0 C w2 w' τ rb (N + 1) { s with pipes := st } vw wk) := Lib.hid (HTK.out w2 hk2)
    clear hk2 ho2 hb2 HCN HTK
    go_wp2_with fail
    refine HC1.out.mono ?_
    rintro e w3 ⟨vw, rfl, hp3⟩
    have a0 : (w3.alloc (.cells #[.int .i64 0, .int .i64 0] 124)).cell? ⟨w3.heap.size, 0, none⟩ = some (.int .i64 0) := by rw [World.cell?_alloc_at _ _ _ _ rfl]; rfl
    have a1 : (w3.alloc (.cells #[.int .i64 0, .int .i64 0] 124)).cell? ⟨w3.heap.size, 1, none⟩ = some (.int .i64 0) := by rw [World.cell?_alloc_at _ _ _ _ rfl]; rfl
    have z0 : (w3.alloc (.cells #[.int .i64 0, .int .i64 0] 124)).frozen? ⟨w3.heap.size, 0, none⟩ = false := by rw [World.frozen?_alloc_at _ _ _ _ rfl]
    have z1 : (w3.alloc (.cells #[.int .i64 0, .int .i64 0] 124)).frozen? ⟨w3.heap.size, 1, none⟩ = false := by rw [World.frozen?_alloc_at _ _ _ _ rfl]
    obtain ⟨hk5, q0, q1⟩ := ansWorld w3 (.int .i64 k) (.int .i64 n)
    have hp5 := hp3.new hk5
    obtain ⟨τ3, hT3, hf3, hv3⟩ := hp3.ex
    have hT5 := hT3.new hk5
    have hfab : τ3 w3.heap.size = .free := by
      obtain ⟨V, l, hr⟩ := hT3
      exact Classical.byContradiction fun e => by have := hr.dom _ e; omega
    have HP5 := Lib.hid hp5
    have HT5 := Lib.hid hT5
    have HF3 := Lib.hid hf3
    have HV3 := Lib.hid hv3
    have HK5 := Lib.hid (hp3.keep.trans' hk5 fun _ _ e => e.elim)
    have HFAB := Lib.hid hfab
    clear hp3 hk5 hp5 hT3 hf3 hv3 hT5 hfab HC1
    go_upto_region 5 with fail
    clear a0 a1 z0 z1
    generalize w3.alloc (.cells #[.int .i64 k, .int .i64 n] 124) = w5 at *
    generalize w3.heap.size = ab at *
    have HC2 : Hid (Calls Tryz.prog 107 #[.iface 37 (.int .i64 er)] w5 fun e w' => e = .returned (.int .i64 en) ∧ Below w5.heap.size w5 w') := Lib.hid (by
      have h9 := wrong_any er w5 (HE.out _ HT5.out.bel)
      rw [← HEN.out] at h9
      exact h9)
    go_wp2_with fail
    refine HC2.out.mono ?_
    rintro e w6 ⟨rfl, hb6⟩
    have hk6 : Keeps (fun _ => False) w5 w6 := Keeps.of_new hb6
    obtain ⟨V6, l6, hR6⟩ := HT5.out.new hk6
    have c1 := hR6.c1
    have z1 := hR6.z 1
    have HG := Lib.hid (((((hR6.goes_ends en).first hk6).trans HK5.out HF3.out)).first HK2.out)
    clear hR6 hb6 hk6
    go_wp2_with fail
    go_end0
    exact ⟨rfl, HG.out⟩
end
end Go.Proofs.YtnjdmijcoadidaaGreatDoor

namespace Go.Proofs.YtnjdmijcoadidaaGreatDoor
open Go.RowKit Go.Maps Pp

section
variable {α : Type} {w0 : World} {C : DoerW α w0} {w w' w1 w2 : World} {τ τ' : Nat → RR} {rb N N' N1 N2 : Nat} {s s' s1 s2 : Rm.S α} {V : RK → Value} {l : List Hp.E}
theorem RoomT.more (h : RoomT w0 C w τ rb N s) : RoomT w0 C w τ rb (N + 1) s := by
  obtain ⟨V, l, hr⟩ := h
  exact ⟨V, l, { hr with pp := drew_pipes hr.pp }⟩
theorem Goes.more (h : Goes w0 C w w' τ rb N s) : Goes w0 C w w' τ rb (N + 1) s := by
  obtain ⟨τ', h1, h2⟩ := h.ex
  exact ⟨⟨τ', h1.more, h2⟩, h.keep⟩
/-- What an ask may meet. -/
structure May (C : DoerW α w0) (s : Rm.S α) (t : Nat) (a : Rm.Ask) (draw : Int) : Prop where
  who : t < s.tasks.length
  d : -9223372036854775808 ≤ draw ∧ draw ≤ 9223372036854775807
  talk : ∀ x ∈ (Pp.talk s.pipes t a.cases draw).wakes, 0 ≤ x.task ∧ x.task < (s.tasks.length : Int)
  talkl : (Pp.talk s.pipes t a.cases draw).wakes.length ≤ 1000000
  close : ∀ x ∈ (Pp.close s.pipes a.n).wakes, 0 ≤ x.task ∧ x.task < (s.tasks.length : Int)
  closel : (Pp.close s.pipes a.n).wakes.length ≤ 1000000
  clock : ∀ e ∈ s.clock, e.2 ≠ (t : Int)
  clockl : s.clock.length < 1000
  now0 : 0 ≤ s.now
  now1 : s.now ≤ 1000000000000000
theorem numberA_d (s : Rm.S α) (t : Nat) (a : Rm.Ask) : (Rm.numberA s t a).1.d = s.d ∧ (Rm.numberA s t a).1.tasks = s.tasks := by
  unfold Rm.numberA
  split
  · exact ⟨rfl, rfl⟩
  split
  · split
    · exact ⟨rfl, rfl⟩
    split <;> exact ⟨rfl, rfl⟩
  split
  · split <;> exact ⟨rfl, rfl⟩
  split
  · split <;> exact ⟨rfl, rfl⟩
  split
  · split <;> exact ⟨rfl, rfl⟩
  · exact ⟨rfl, rfl⟩
set_option maxRecDepth 100000 in
set_option maxHeartbeats 6400000 in
theorem doA_any (h : RoomT w0 C w τ rb N s) (hE : ErrT w0) (hf : Fits C s) (hN : N ≤ 100000) (t : Nat) {va vc : Value} {a : Rm.Ask} (ha : AskSays w va vc a) (hv : ∀ b, Held a va vc b → τ b = .free) (draw : Int) (hm : May C s t a draw) :
    Calls Tryz.prog 46 #[.pointer (some ⟨rb, 0, none⟩), .int .i64 t, .agg #[.int .i64 a.what, .int .i64 a.n, va, vc], .int .i64 draw] w fun e w' => e = .returned (.tuple #[]) ∧ Goes w0 C w w' τ rb (N + 1) (Rm.doA C.D s t a draw) := by
  have hk1 : Keeps (fun _ => False) w (w.alloc (.cells #[.int .i64 a.what, .int .i64 a.n, va, vc] 88)) := (Keeps.refl (fun _ => False) w).alloc _
  have hc := askAlloc w a.what a.n va vc 88
  have q0 := hc 0 _ rfl
  have q1 := hc 1 _ rfl
  have q2 := hc 2 _ rfl
  have q3 := hc 3 _ rfl
  have hT1 := h.new hk1
  have HA := Lib.hid (ha.keeps hk1 fun _ _ => id)
  have HV := Lib.hid hv
  have HT := Lib.hid hT1
  have HK := Lib.hid hk1
  have HEE := Lib.hid hE
  have HF := Lib.hid hf
  have HMAY := Lib.hid hm
  obtain ⟨aa, na, ca, rfl, -⟩ := id ha.args
  obtain ⟨ac, nc, cc, rfl, -⟩ := id ha.cases
  have m1 : a.what = 1 → Rm.doA C.D s t a draw = Rm.endA s t := fun e => by unfold Rm.doA; rw [if_pos e]
  have m2 : a.what = 2 → Rm.doA C.D s t a draw = s := fun e => by unfold Rm.doA; rw [if_neg (by omega), if_pos e]
  have m3 : a.what = 3 → Rm.doA C.D s t a draw = Rm.ends s (faultV a.n) := fun e => by unfold Rm.doA; rw [if_neg (by omega), if_neg (by omega), if_pos e]; rfl
  have m4 : a.what = 4 → Rm.doA C.D s t a draw = Rm.forkA C.D s t a.n a.args := fun e => by unfold Rm.doA; rw [if_neg (by omega), if_neg (by omega), if_neg (by omega), if_pos e]
  have m5 : a.what = 5 → Rm.doA C.D s t a draw = Rm.talkA C.D s t a.cases draw := fun e => by unfold Rm.doA; rw [if_neg (by omega), if_neg (by omega), if_neg (by omega), if_neg (by omega), if_pos e]
  have m6 : a.what = 6 → Rm.doA C.D s t a draw = Rm.shutA C.D s t a.n := fun e => by unfold Rm.doA; rw [if_neg (by omega), if_neg (by omega), if_neg (by omega), if_neg (by omega), if_neg (by omega), if_pos e]
  have m9 : a.what = 9 → Rm.doA C.D s t a draw = Rm.sleepA C.D s t a.n := fun e => by unfold Rm.doA; rw [if_neg (by omega), if_neg (by omega), if_neg (by omega), if_neg (by omega), if_neg (by omega), if_neg (by omega), if_pos e]
  have m0 : a.what ≠ 1 → a.what ≠ 2 → a.what ≠ 3 → a.what ≠ 4 → a.what ≠ 5 → a.what ≠ 6 → a.what ≠ 9 → Rm.doA C.D s t a draw = if (Rm.numberA s t a).2.2 ≠ 0 then Rm.ends (Rm.numberA s t a).1 (Rm.numberA s t a).2.2 else Rm.give C.D (Rm.numberA s t a).1 t 0 (Rm.numberA s t a).2.1 := fun h1 h2 h3 h4 h5 h6 h9 => by unfold Rm.doA; rw [if_neg h1, if_neg h2, if_neg h3, if_neg h4, if_neg h5, if_neg h6, if_neg h9]
  have hNU := number_any hT1 hE hf t HA.out (fun h0 b hb => hv b (Or.inl ⟨h0, hb⟩))
  have hnd := numberA_d s t a
  generalize Rm.doA C.D s t a draw = r at *
  generalize Rm.numberA s t a = p at *
  obtain ⟨aw, an, args, cases⟩ := a
  simp only at q0 q1 q2 q3 HA m1 m2 m3 m4 m5 m6 m9 m0 hNU ⊢
  have M1 := Lib.hid m1
  have M2 := Lib.hid m2
  have M3 := Lib.hid m3
  have M4 := Lib.hid m4
  have M5 := Lib.hid m5
  have M6 := Lib.hid m6
  have M9 := Lib.hid m9
  have M0 := Lib.hid m0
  have HNU := Lib.hid hNU
  have HND := Lib.hid hnd
  obtain ⟨ps, pn, pe⟩ := p
  simp only at M0 HNU HND
  clear h ha hv hE hf hm hT1 hk1 hc m1 m2 m3 m4 m5 m6 m9 m0 hNU hnd
  by_cases h1 : aw = 1
  · subst h1
    obtain rfl := M1.out rfl
    clear M0 M1 M2 M3 M4 M5 M6 M9
    have HC := Lib.hid (ended_any HT.out HF.out t HMAY.out.who)
    go_enter Tryz.func46, Tryz.ntmps46
    go_wp2_with fail
    refine HC.out.mono ?_
    rintro e w2 ⟨rfl, hg⟩
    have HG := Lib.hid (hg.first HK.out)
    clear hg q0 q1 q2 q3
    go_wp2_with fail
    go_end0
    exact ⟨rfl, HG.out.more⟩
  have z1 : (aw == 1) = false := beq_eq_false_iff_ne.2 h1
  by_cases h2 : aw = 2
  · subst h2
    obtain rfl := M2.out rfl
    clear M0 M1 M2 M3 M4 M5 M6 M9
    go_enter Tryz.func46, Tryz.ntmps46
    go_wp2_with fail
    have HG := Lib.hid ((Goes.refl HT.out).first HK.out)
    clear q0 q1 q2 q3
    go_end0
    exact ⟨rfl, HG.out.more⟩
  have z2 : (aw == 2) = false := beq_eq_false_iff_ne.2 h2
  by_cases h3 : aw = 3
  · subst h3
    obtain rfl := M3.out rfl
    clear M0 M1 M2 M3 M4 M5 M6 M9
    have HC := Lib.hid (fault_any an (w.alloc (.cells #[.int .i64 3, .int .i64 an, .slice aa na ca, .slice ac nc cc] 88)))
    generalize hfv : faultV an = fv at *
    have HFV := Lib.hid hfv
    clear hfv
    go_enter Tryz.func46, Tryz.ntmps46
    go_wp2_with fail
    refine HC.out.mono ?_
    rintro e w2 ⟨rfl, hb2⟩
    have hk2 : Keeps (fun _ => False) _ w2 := Keeps.of_new hb2
    obtain ⟨V2, l2, hR2⟩ := HT.out.new hk2
    have c1 := hR2.c1
    have zz1 := hR2.z 1
    have HG := Lib.hid (((hR2.goes_ends fv).first hk2).first HK.out)
    clear hR2 hb2 hk2 q0 q1 q2 q3
    go_wp2_with fail
    go_end0
    exact ⟨rfl, HG.out.more⟩
  have z3 : (aw == 3) = false := beq_eq_false_iff_ne.2 h3
  by_cases h4 : aw = 4
  · subst h4
    obtain rfl := M4.out rfl
    clear M0 M1 M2 M3 M4 M5 M6 M9
    have HC := Lib.hid (fork_any HT.out HF.out t HMAY.out.who an HA.out.n0 HA.out.n1 HA.out.args (fun h0 b hb => HV.out b (Or.inl ⟨h0, hb⟩)) HA.out.la)
    go_enter Tryz.func46, Tryz.ntmps46
    go_wp2_with fail
    refine HC.out.mono ?_
    rintro e w2 ⟨rfl, hg⟩
    have HG := Lib.hid (hg.first HK.out)
    clear hg q0 q1 q2 q3
    go_wp2_with fail
    go_end0
    exact ⟨rfl, HG.out.more⟩
  have z4 : (aw == 4) = false := beq_eq_false_iff_ne.2 h4
  by_cases h5 : aw = 5
  · subst h5
    obtain rfl := M5.out rfl
    clear M0 M1 M2 M3 M4 M5 M6 M9
    have HC := Lib.hid (talkA_any HT.out HEE.out HF.out hN t HMAY.out.who HA.out.cases (fun h0 b hb => HV.out b (Or.inr ⟨h0, hb⟩)) HA.out.lc draw HMAY.out.d HMAY.out.talk HMAY.out.talkl)
    go_enter Tryz.func46, Tryz.ntmps46
    go_wp2_with fail
    refine HC.out.mono ?_
    rintro e w2 ⟨rfl, hg⟩
    have HG := Lib.hid (hg.first HK.out)
    clear hg q0 q1 q2 q3
    go_wp2_with fail
    go_end0
    exact ⟨rfl, HG.out⟩
  have z5 : (aw == 5) = false := beq_eq_false_iff_ne.2 h5
  by_cases h6 : aw = 6
  · subst h6
    obtain rfl := M6.out rfl
    clear M0 M1 M2 M3 M4 M5 M6 M9
    have HC := Lib.hid (shut_any HT.out HEE.out HF.out hN t HMAY.out.who an HMAY.out.close HMAY.out.closel)
    go_enter Tryz.func46, Tryz.ntmps46
    go_wp2_with fail
    refine HC.out.mono ?_
    rintro e w2 ⟨rfl, hg⟩
    have HG := Lib.hid (hg.first HK.out)
    clear hg q0 q1 q2 q3
    go_wp2_with fail
    go_end0
    exact ⟨rfl, HG.out.more⟩
  have z6 : (aw == 6) = false := beq_eq_false_iff_ne.2 h6
  by_cases h9 : aw = 9
  · subst h9
    obtain rfl := M9.out rfl
    clear M0 M1 M2 M3 M4 M5 M6 M9
    have HC := Lib.hid (sleep_any HT.out HF.out t HMAY.out.who an HA.out.n0 HA.out.n1 HMAY.out.clock HMAY.out.clockl HMAY.out.now0 HMAY.out.now1)
    go_enter Tryz.func46, Tryz.ntmps46
    go_wp2_with fail
    refine HC.out.mono ?_
    rintro e w2 ⟨rfl, hg⟩
    have HG := Lib.hid (hg.first HK.out)
    clear hg q0 q1 q2 q3
    go_wp2_with fail
    go_end0
    exact ⟨rfl, HG.out.more⟩
  have z9 : (aw == 9) = false := beq_eq_false_iff_ne.2 h9
  have m0 := M0.out h1 h2 h3 h4 h5 h6 h9
  clear M0 M1 M2 M3 M4 M5 M6 M9
  by_cases hpe : pe = 0
  · subst hpe
    rw [if_neg (by decide)] at m0
    subst m0
    go_enter Tryz.func46, Tryz.ntmps46
    go_wp2_with fail
    refine HNU.out.mono ?_
    rintro e w2 ⟨rfl, hg⟩
    obtain ⟨τ2, hT2, hf2⟩ := hg.ex
    have HC := Lib.hid (give_any hT2 t (by rw [HND.out.1, HF.out.num]; exact HMAY.out.who) (by rw [HND.out.1, HF.out.num]; have := HF.out.tasks; omega) (by rw [HND.out.1]; have := HF.out.big; omega) 0 pn)
    have HK2 := Lib.hid hg.keep
    have HF2 := Lib.hid hf2
    clear hg hT2 hf2 q0 q1 q2 q3
    go_wp2_with fail
    refine HC.out.mono ?_
    rintro e w3 ⟨rfl, hg3⟩
    have HG := Lib.hid ((hg3.trans HK2.out HF2.out).first HK.out)
    clear hg3
    go_wp2_with fail
    go_end0
    exact ⟨rfl, HG.out.more⟩
  · rw [if_pos hpe] at m0
    subst m0
    have zpe : (pe == 0) = false := beq_eq_false_iff_ne.2 hpe
    go_enter Tryz.func46, Tryz.ntmps46
    go_wp2_with fail
    refine HNU.out.mono ?_
    rintro e w2 ⟨rfl, hg⟩
    obtain ⟨τ2, ⟨V2, l2, hR2⟩, hf2⟩ := hg.ex
    have c1 := hR2.c1
    have zz1 := hR2.z 1
    have HG := Lib.hid (((hR2.goes_ends pe).trans hg.keep hf2).first HK.out)
    clear hg hR2 hf2 q0 q1 q2 q3
    go_wp2_with fail
    refine bodyPost_ret (results_none rfl _ _ _) rfl ?_
    exact ⟨rfl, HG.out.more⟩
end
end Go.Proofs.YtnjdmijcoadidaaGreatDoor

namespace Go.Proofs.YtnjdmijcoadidaaGreatDoor
open Go.RowKit Go.Maps Pp

section
variable {α : Type} {w0 : World} {C : DoerW α w0} {w w' w1 w2 : World} {τ τ' : Nat → RR} {rb N N' N1 N2 : Nat} {s s' s1 s2 : Rm.S α} {V : RK → Value} {l : List Hp.E}
def readyL (s : Rm.S α) (i : Nat) : List Int := ((s.live.take i).filter fun i => decide (s.tasks.getD i 0 = 0)).map fun (i : Nat) => (i : Int)
theorem readyL_all (s : Rm.S α) : readyL s s.live.length = (Rm.ready s).map fun (i : Nat) => (i : Int) := by unfold readyL Rm.ready; rw [List.take_length]
theorem readyL_yes {s : Rm.S α} {i x : Nat} (hx : s.live[i]? = some x) (h : s.tasks.getD x 0 = 0) : readyL s (i + 1) = readyL s i ++ [(x : Int)] := by
  unfold readyL
  rw [take_snoc hx, List.filter_append, List.map_append, List.filter_cons_of_pos (p := fun i => decide (s.tasks.getD i 0 = 0)) (decide_eq_true h)]; rfl
theorem readyL_no {s : Rm.S α} {i x : Nat} (hx : s.live[i]? = some x) (h : ¬ s.tasks.getD x 0 = 0) : readyL s (i + 1) = readyL s i := by
  unfold readyL
  rw [take_snoc hx, List.filter_append, List.map_append, List.filter_cons_of_neg (p := fun i => decide (s.tasks.getD i 0 = 0)) (fun e => h (of_decide_eq_true e)), List.filter_nil, List.map_nil, List.append_nil]
theorem readyL_le (s : Rm.S α) (i : Nat) : (readyL s i).length ≤ s.live.length := by
  unfold readyL
  rw [List.length_map]
  refine Nat.le_trans (List.length_filter_le _ _) ?_
  rw [List.length_take]
  omega
set_option maxRecDepth 100000 in
set_option maxHeartbeats 6400000 in
theorem ready_any (h : RoomT w0 C w τ rb N s) (hv : ∀ t ∈ s.live, t < s.tasks.length) (hl : s.live.length ≤ 90000) (hl2 : s.tasks.length ≤ 1000000) :
    Calls Tryz.prog 40 #[.pointer (some ⟨rb, 0, none⟩)] w fun e w' => ∃ v, e = .returned v ∧ OwnI w' w.heap.size v ((Rm.ready s).map fun (i : Nat) => (i : Int)) ∧ Below w.heap.size w w' := by
  obtain ⟨V, l, hr⟩ := h
  obtain ⟨al, cl, hvl, hl3, hl4⟩ := row_slice (hr.rv .live)
  have c3 : w.cell? ⟨rb, 3, none⟩ = some (.slice al s.live.length cl) := (hr.cv .live).trans (by rw [hvl]; rfl)
  obtain ⟨at_, ct, hvt, ht1, ht2⟩ := row_slice (hr.rv .tasks)
  have c2 : w.cell? ⟨rb, 2, none⟩ = some (.slice at_ s.tasks.length ct) := (hr.cv .tasks).trans (by rw [hvt]; rfl)
  have HR := Lib.hid hr
  have HV := Lib.hid hv
  obtain ⟨n, hn⟩ : ∃ n, n = s.live.length := ⟨_, rfl⟩
  have HN := Lib.hid hn
  have HVL := Lib.hid hvl
  have HVT := Lib.hid hvt
  have HLT : Hid (rb < w.heap.size) := Lib.hid hr.lt
  rw [← hn] at c3
  have hnl : n ≤ 90000 := by omega
  have hcl : n ≤ cl := by rw [hn]; exact hl3
  have hct : s.tasks.length ≤ ct := ht1
  unfold maxLen at hl4 ht2
  clear hr hv hvl hvt hl hn hl3 ht1
  go_enter Tryz.func40, Tryz.ntmps40
  go_wp2_with fail
  go_loopw [3, 11] (fun lv iv wr => ∃ i : Nat, i ≤ n ∧ iv = .int .i64 i ∧ OwnI wr w.heap.size lv (readyL s i) ∧ Below w.heap.size w wr) (fun _ iv _ => n - (intOf iv).toNat)
  case atStart => exact ⟨0, Nat.zero_le _, rfl, ownI_nil _ _, Below.refl _ _⟩
  case round =>
    obtain ⟨i, hi, rfl, hO, hB⟩ := hrel
    rename World => wr
    have HO := Lib.hid hO
    have HB := Lib.hid hB
    obtain ⟨ao, cap, hvv⟩ := hO.slice
    subst hvv
    clear hO hB
    by_cases hin : i < n
    · obtain ⟨x, hx⟩ : ∃ x, s.live[i]? = some x := ⟨_, List.getElem?_eq_getElem (by rw [← HN.out]; exact hin)⟩
      have hxt : x < s.tasks.length := HV.out x (List.mem_of_getElem? hx)
      obtain ⟨g, cap3, hv3, hg1, hg2, hg3, -, hcell⟩ := row_open (HR.out.rv .live) (show 0 < s.live.length by rw [← HN.out]; omega)
      have e3 := HVL.out.symm.trans hv3
      injection e3 with e4 e5 e6
      obtain ⟨g2, cap2, hv2, hk1, hk2, hk3, -, hcell2⟩ := row_open (HR.out.rv .tasks) (show 0 < s.tasks.length by omega)
      have f3 := HVT.out.symm.trans hv2
      injection f3 with f4 f5 f6
      have hxc : w.cell? ⟨g, i, none⟩ = some (.int .i64 (x : Int)) := hcell i _ (show (s.live.map fun (i : Nat) => Value.int .i64 (i : Int))[i]? = _ by rw [List.getElem?_map, hx]; rfl)
      obtain ⟨y, hy⟩ : ∃ y, y = s.tasks.getD x 0 := ⟨_, rfl⟩
      have hyc : w.cell? ⟨g2, x, none⟩ = some (.int .i64 y) := by rw [hy]; exact hcell2 x _ (ints_at hxt)
      have r3 := (HB.out.cell (p := ⟨rb, 3, none⟩) HLT.out).trans c3
      have r2 := (HB.out.cell (p := ⟨rb, 2, none⟩) HLT.out).trans c2
      have rx := (HB.out.cell (p := ⟨g, i, none⟩) hg3).trans hxc
      have ry := (HB.out.cell (p := ⟨g2, x, none⟩) hk3).trans hyc
      subst e4 f4
      have HX := Lib.hid hx
      have HY := Lib.hid hy
      have hii : (0 : Int) ≤ (i : Int) ∧ (i : Int) < (n : Int) := by omega
      have hxx : (0 : Int) ≤ (x : Int) ∧ (x : Int) < (s.tasks.length : Int) := by omega
      have HLE : Hid ((readyL s i).length ≤ 90000) := Lib.hid (by have := readyL_le s i; have := HN.out; omega)
      have HSZ : Hid (w.heap.size ≤ wr.heap.size) := Lib.hid HB.out.size
      clear hv3 hv2 hcell hcell2 hxc hyc hg1 hg2 hg3 hk1 hk2 hk3 hx hy e5 e6 f5 f6 hxt
      by_cases hy0 : y = 0
      · subst hy0
        have hJ : ∀ (v : Value) w2, OwnI w2 w.heap.size v (readyL s i ++ [(x : Int)]) → Keeps (fun b => (Value.slice ao (readyL s i).length cap).ownBlock = some b) wr w2 → OwnI w2 w.heap.size v (readyL s (i + 1)) ∧ Below w.heap.size w w2 := fun v w2 h1 h2 => by
          refine ⟨by rw [readyL_yes HX.out HY.out.symm]; exact h1, HB.out.trans (h2.below HSZ.out fun b hb e => ?_)⟩
          have := (World.ownsRow.lt HO.out b e).1
          omega
        have HJ := Lib.hid hJ
        clear hJ
        go_wp2_with (at_builtin; refine wpList_appendI rfl _ _ rfl _ w.heap.size _ (readyL s i) x HO.out rfl rfl (by have := HLE.out; omega) HSZ.out ?_; intro ao2 cap2 w2 hO2 hK2 hN2; have HJ2 := Lib.hid (HJ.out _ w2 hO2 hK2); clear hO2 hK2 hN2)
        go_roundw
        case rel => exact ⟨i + 1, by omega, by go_num, HJ2.out.1, HJ2.out.2⟩
        case measure => simp [intOf]; omega
      · have zy : (y == 0) = false := beq_eq_false_iff_ne.2 hy0
        have HJ : Hid (OwnI wr w.heap.size (Value.slice ao (readyL s i).length cap) (readyL s (i + 1))) := Lib.hid (by rw [readyL_no HX.out (by rw [← HY.out]; exact hy0)]; exact HO.out)
        go_wp2_with fail
        go_roundw
        case rel => exact ⟨i + 1, by omega, by go_num, HJ.out, HB.out⟩
        case measure => simp [intOf]; omega
    · obtain rfl : i = n := by omega
      have hnn : ¬ (i : Int) < (i : Int) := by omega
      have HG9 : Hid (OwnI wr w.heap.size (Value.slice ao (readyL s i).length cap) ((Rm.ready s).map fun (i : Nat) => (i : Int))) := Lib.hid (by
        rw [← readyL_all, ← HN.out]; exact HO.out)
      go_wp2_with fail
      go_ret
      exact ⟨_, rfl, HG9.out, HB.out⟩
set_option maxRecDepth 100000 in
set_option maxHeartbeats 6400000 in
theorem choices_any (h : RoomT w0 C w τ rb N s) (hv : ∀ t ∈ s.live, t < s.tasks.length) (hl : s.live.length ≤ 90000) (hl2 : s.tasks.length ≤ 1000000) :
    Calls Tryz.prog 15 #[.pointer (some ⟨rb, 0, none⟩)] w fun e w' => e = .returned (.int .i64 (Rm.choices s : Nat)) ∧ Below w.heap.size w w' := by
  have HC1 := Lib.hid (ready_any h hv hl hl2)
  have HC2 : Hid (∀ W, Below w.heap.size w W → Calls Tryz.prog 41 #[.pointer (some ⟨rb, 4, none⟩)] W fun e w' => e = .returned (.int .i64 (s.clock.length : Nat)) ∧ W = w') := Lib.hid fun W hb => roomclen_any (h.new (Keeps.of_new hb))
  have c1 : w.cell? ⟨rb, 1, none⟩ = some (.int .i64 s.fin) := by obtain ⟨V, l, hr⟩ := h; exact hr.c1
  have hrl : (Rm.ready s).length ≤ s.live.length := List.length_filter_le _ _
  clear h hv
  by_cases hf : s.fin = 0
  · rw [hf] at c1
    obtain ⟨k, hk⟩ : ∃ k, k = (Rm.ready s).length := ⟨_, rfl⟩
    have hlen : ((Rm.ready s).map fun (i : Nat) => (i : Int)).length = k := by rw [List.length_map, hk]
    have HLEN := Lib.hid hlen
    have hkl : k ≤ 90000 := by omega
    clear hlen hrl
    by_cases hc : 0 < s.clock.length
    · have hm : Rm.choices s = k + 1 := by unfold Rm.choices; rw [if_pos hf, if_pos hc, hk]
      rw [hm]
      have hcc : (0 : Int) < (s.clock.length : Int) := by omega
      clear hm hk hf
      go_enter Tryz.func15, Tryz.ntmps15
      go_wp2_with fail
      refine HC1.out.mono ?_
      rintro e w2 ⟨v, rfl, ho, hb⟩
      obtain ⟨ao, cap, rfl⟩ := ho.slice
      rw [HLEN.out]
      have HC3 := Lib.hid (HC2.out w2 hb)
      have HB := Lib.hid hb
      clear ho hb
      go_wp2_with fail
      refine HC3.out.mono ?_
      rintro e w3 ⟨rfl, rfl⟩
      go_wp2_with fail
      go_ret
      exact ⟨by simp, HB.out⟩
    · have hm : Rm.choices s = k := by unfold Rm.choices; rw [if_pos hf, if_neg hc, hk, Nat.add_zero]
      rw [hm]
      have hcc : ¬ (0 : Int) < (s.clock.length : Int) := by omega
      clear hm hk hf
      go_enter Tryz.func15, Tryz.ntmps15
      go_wp2_with fail
      refine HC1.out.mono ?_
      rintro e w2 ⟨v, rfl, ho, hb⟩
      obtain ⟨ao, cap, rfl⟩ := ho.slice
      rw [HLEN.out]
      have HC3 := Lib.hid (HC2.out w2 hb)
      have HB := Lib.hid hb
      clear ho hb
      go_wp2_with fail
      refine HC3.out.mono ?_
      rintro e w3 ⟨rfl, rfl⟩
      go_wp2_with fail
      go_ret
      exact ⟨rfl, HB.out⟩
  · have hm : Rm.choices s = 0 := if_neg hf
    rw [hm]
    have zf : (s.fin == 0) = false := beq_eq_false_iff_ne.2 hf
    clear hm
    go_enter Tryz.func15, Tryz.ntmps15
    go_wp2_with fail
    go_ret
    exact ⟨rfl, Below.refl _ _⟩
end
end Go.Proofs.YtnjdmijcoadidaaGreatDoor

namespace Go.Proofs.YtnjdmijcoadidaaGreatDoor
open Go.RowKit Go.Maps Pp

section
variable {α : Type} {w0 : World} {C : DoerW α w0} {w w' w1 w2 : World} {τ τ' : Nat → RR} {rb N N' N1 N2 : Nat} {s s' s1 s2 : Rm.S α} {V : RK → Value} {l : List Hp.E}
theorem RoomT.perm (h : RoomT w0 C w τ rb N s) {c : List (Int × Int)} (hc : s.clock.Perm c) : RoomT w0 C w τ rb N { s with clock := c } := by
  obtain ⟨V, l, hr⟩ := h
  exact ⟨V, l, ⟨hr.c0, hr.c1, hr.cv, fun k => by cases k <;> exact hr.rv _, hr.rr, hr.z, hr.ck, hr.cl.trans hc, hr.pp, hr.dr, hr.t0, hr.t1, hr.dom, hr.own, hr.bel⟩⟩
/-- Who wakes, in the words of a room. -/
theorem due_model {s : Rm.S α} {ids : List Int} {m : Int} {l' : List Hp.E} (h : DueR s.now s.clock ids m l') : Rm.least s = m ∧ Rm.first s = ids ∧ l'.Perm (s.clock.filter fun e => decide (e.1 ≠ Rm.least s)) := by
  rcases h with ⟨h1, rfl, rfl, rfl⟩ | ⟨h1, h2, h3, h4, h5⟩
  · have e1 : Rm.least s = s.now := by unfold Rm.least; rw [h1]; rfl
    refine ⟨e1, ?_, by rw [h1]; exact List.Perm.refl _⟩
    unfold Rm.first
    rw [h1]
    simp
  · have hge : ∀ e ∈ s.clock, m ≤ e.1 := fun e he => by
      rcases List.mem_append.1 (h3.mem_iff.1 he) with h6 | h6
      · obtain ⟨i, _, rfl⟩ := List.mem_map.1 h6
        exact Int.le_refl _
      · have := h5 e h6; omega
    obtain ⟨i, hi⟩ := List.exists_mem_of_length_pos h2
    have hmem : (m, i) ∈ s.clock := h3.mem_iff.2 (List.mem_append.2 (Or.inl (List.mem_map.2 ⟨i, hi, rfl⟩)))
    have hmin : (s.clock.map (·.1)).min? = some m := by
      rw [List.min?_eq_some_iff]
      exact ⟨List.mem_map.2 ⟨_, hmem, rfl⟩, fun b hb => by
        obtain ⟨e, he, rfl⟩ := List.mem_map.1 hb
        exact hge e he⟩
    have e1 : Rm.least s = m := by unfold Rm.least; rw [hmin]; rfl
    obtain ⟨p1, p2⟩ := due_part h3 h5
    refine ⟨e1, ?_, ?_⟩
    · unfold Rm.first
      rw [e1]
      refine List.Perm.eq_of_pairwise (le := fun a b => a ≤ b) (fun x y _ _ h1 h2 => Int.le_antisymm h1 h2) ?_ (h4.imp fun h => Int.le_of_lt h) ((List.mergeSort_perm _ _).trans p1)
      refine (List.pairwise_mergeSort (le := fun a b => decide (a ≤ b)) (fun a b c h1 h2 => ?_) (fun a b => ?_) _).imp fun h => of_decide_eq_true h
      · exact decide_eq_true (Int.le_trans (of_decide_eq_true h1) (of_decide_eq_true h2))
      · rcases Int.le_total a b with h | h
        · simp [h]
        · simp [h]
    · rw [e1]
      refine p2.symm.trans ?_
      rw [List.filter_congr fun e he => ?_]
      have := hge e he
      by_cases h9 : m < e.1
      · rw [decide_eq_true h9, decide_eq_true (by omega)]
      · rw [decide_eq_false h9, decide_eq_false (by omega)]
def wks0 (ids : List Int) : List Wk := ids.map fun i => ⟨i, 0, 0⟩
theorem rise_each (D : Rm.Doer α) : ∀ (ids : List Int) (s : Rm.S α), Rm.rise D s ids = Rm.resumeEach D s (wks0 ids)
  | [], _ => rfl
  | _ :: l, _ => rise_each D l _
theorem roomdue2_any (h : RoomT w0 C w τ rb N s) : Calls Tryz.prog 73 #[.pointer (some ⟨rb, 4, none⟩)] w fun e w' => ∃ v, e = .returned v ∧ OwnI w' w.heap.size v (Rm.first s) ∧ RoomT w0 C w' τ rb N { s with now := Rm.least s, clock := s.clock.filter fun e => decide (e.1 ≠ Rm.least s) } ∧ Keeps (fun b => τ b ≠ .free) w w' := by
  obtain ⟨V, l, hr⟩ := h
  refine (cdue_any w hr.ck).mono ?_
  rintro e w' ⟨v, ids, m, l', rfl, h1, h2, h3, h4⟩
  have hd : DueR s.now s.clock ids m l' := by
    rcases h4 with ⟨rfl, h5, h6, h7⟩ | ⟨h5, h6, h7, h8, h9⟩
    · exact Or.inl ⟨hr.cl.nil_eq.symm, h5, h6, h7⟩
    · exact Or.inr ⟨h5, h6, hr.cl.symm.trans h7, h8, h9⟩
  obtain ⟨e1, e2, e3⟩ := due_model hd
  have hτ : IsFun τ (fun b => τ b = .clock ∨ b = rb) .clock w.heap.size τ := ⟨fun _ _ => rfl, fun b hb hF => by
    rcases hF with e | e
    · exact e
    · have := hr.lt; omega, fun _ => Or.inl rfl⟩
  have hR := hr.clocked h2 (fun b hb => Or.inl hb) h3 (List.Perm.refl l') hτ
  refine ⟨v, rfl, by rw [e2]; exact h1, ?_, h3.mono fun b _ e4 e5 => ?_⟩
  · have h9 := RoomT.perm (c := s.clock.filter fun e => decide (e.1 ≠ Rm.least s)) hR.bare e3
    rw [← e1] at h9
    exact h9
  · rcases e4 with e4 | e4
    · rw [e5] at e4; cases e4
    · rw [e4, hr.t0] at e5; cases e5
set_option maxRecDepth 100000 in
set_option maxHeartbeats 6400000 in
theorem wakeA_any (h : RoomT w0 C w τ rb N s) (hf : Fits C s) (hx : ∀ e ∈ s.clock, 0 ≤ e.2 ∧ e.2 < (s.tasks.length : Int)) (hl : s.clock.length ≤ 1000) :
    Calls Tryz.prog 44 #[.pointer (some ⟨rb, 0, none⟩)] w fun e w' => e = .returned (.tuple #[]) ∧ Goes w0 C w w' τ rb N (Rm.wake C.D s) := by
  have HC1 := Lib.hid (roomdue2_any h)
  have hm : Rm.wake C.D s = Rm.resumeEach C.D { s with now := Rm.least s, clock := s.clock.filter fun e => decide (e.1 ≠ Rm.least s) } (wks0 (Rm.first s)) := rise_each _ _ _
  rw [hm]
  have hfx : ∀ i ∈ Rm.first s, 0 ≤ i ∧ i < (s.tasks.length : Int) := fun i hi => by
    unfold Rm.first at hi
    have h1 := (List.mergeSort_perm _ _).mem_iff.1 hi
    obtain ⟨e, he, rfl⟩ := List.mem_map.1 h1
    exact hx e (List.mem_filter.1 he).1
  have hfl : (Rm.first s).length ≤ 1000 := by
    unfold Rm.first
    rw [(List.mergeSort_perm _ _).length_eq, List.length_map]
    exact Nat.le_trans (List.length_filter_le _ _) hl
  obtain ⟨s1, hs1⟩ : ∃ s1, s1 = { s with now := Rm.least s, clock := s.clock.filter fun e => decide (e.1 ≠ Rm.least s) } := ⟨_, rfl⟩
  have hnum : C.num s1.d = s1.tasks.length := by rw [hs1]; exact hf.num
  have htl : s1.tasks.length ≤ 90000 := by rw [hs1]; exact hf.tasks
  have hbig : C.big s1.d ≤ 500000000 := by rw [hs1]; exact hf.big
  have hts : s.tasks.length = s1.tasks.length := by rw [hs1]
  rw [hts] at hfx
  rw [← hs1] at HC1 ⊢
  clear hm hs1 hts
  have HDOM : Hid (∀ b, τ b ≠ .free → b < w.heap.size) := Lib.hid (by obtain ⟨V, l, hr⟩ := h; exact hr.dom)
  generalize Rm.first s = ids at *
  have HXS := Lib.hid hfx
  have HNUM := Lib.hid hnum
  have HB := Lib.hid hbig
  have HTL := Lib.hid htl
  obtain ⟨n, hn⟩ : ∃ n, n = ids.length := ⟨_, rfl⟩
  have HN := Lib.hid hn
  have hn1 : n ≤ 1000 := by omega
  clear h hf hx hl hfx hfl hnum hbig htl hn
  go_enter Tryz.func44, Tryz.ntmps44
  go_wp2_with fail
  refine HC1.out.mono ?_
  rintro e w2 ⟨v, rfl, hO, hT, hK⟩
  obtain ⟨ao, cap, rfl⟩ := hO.slice
  have HO := Lib.hid hO
  have HK := Lib.hid hK
  have HG0 : Hid (Goes w0 C w2 w2 τ rb N (Rm.resumeEach C.D s1 ((wks0 ids).take 0))) := Lib.hid (Goes.refl hT)
  rw [← HN.out]
  clear hO hT hK HC1
  go_wp2_with fail
  go_loopw [9] (fun iv wr => ∃ i : Nat, i ≤ n ∧ iv = .int .i64 i ∧ Goes w0 C w2 wr τ rb N (Rm.resumeEach C.D s1 ((wks0 ids).take i))) (fun iv _ => n - (intOf iv).toNat)
  case atStart => exact ⟨0, Nat.zero_le _, rfl, HG0.out⟩
  case round =>
    obtain ⟨i, hi, rfl, hG⟩ := hrel
    rename World => wr
    have HG := Lib.hid hG
    clear hG HG0
    by_cases hin : i < n
    · obtain ⟨x, hx⟩ : ∃ x, ids[i]? = some x := ⟨_, List.getElem?_eq_getElem (by rw [← HN.out]; exact hin)⟩
      have hwx : (wks0 ids)[i]? = some ⟨x, 0, 0⟩ := by unfold wks0; rw [List.getElem?_map, hx]; rfl
      have HX := Lib.hid hwx
      obtain ⟨x0, x1⟩ := HXS.out _ (List.mem_of_getElem? hx)
      obtain ⟨t, rfl⟩ : ∃ t : Nat, x = (t : Int) := ⟨x.toNat, by omega⟩
      have hob : OwnI w2 0 (.slice ao ids.length cap) ids := own_mono HO.out (Nat.zero_le _)
      obtain ⟨g, cap3, hv3, hg1, hg2, hg3, -, hcell⟩ := row_open hob (by rw [← HN.out]; omega)
      injection hv3 with e4 e5 e6
      subst e4
      have hgw : w.heap.size ≤ g := (World.ownsRow.lt HO.out g rfl).1
      have hgf : τ g = .free := Classical.byContradiction fun e => by have := HDOM.out g e; omega
      have hic := hcell i _ (show (ids.map (Value.int .i64))[i]? = some (.int .i64 (t : Int)) by rw [List.getElem?_map, hx]; rfl)
      have q0 : wr.cell? ⟨g, i, none⟩ = some (.int .i64 (t : Int)) := HG.out.keep.cell_of hic (by rw [hgf]; simp)
      obtain ⟨τ1, hT, hf⟩ := HG.out.ex
      have HF := Lib.hid hf
      have hlt : ((wks0 ids).take i).length ≤ 1000 := by rw [List.length_take]; omega
      have HC := Lib.hid (resume_any hT t (by rw [resumeEach_tasks]; omega) (by rw [resumeEach_num, HNUM.out]; omega) (by rw [resumeEach_num, HNUM.out]; have := HTL.out; omega)
        (by have h1 := resumeEach_big (C := C) ((wks0 ids).take i) s1; have := HB.out; omega) (by rw [resumeEach_tasks]; have := HTL.out; omega) 0 0)
      have hii : (0 : Int) ≤ (i : Int) ∧ (i : Int) < (n : Int) := by omega
      have hg1' : n ≤ cap := by rw [HN.out, e6]; exact hg1
      clear hcell hx hT hf hob hg1 hgw hgf hic hlt x0 x1 hwx e5 e6 hg2 hg3
      go_wp2_with fail
      refine HC.out.mono ?_
      rintro e w3 ⟨rfl, hg3⟩
      have HG3 : Hid (Goes w0 C w2 w3 τ rb N (Rm.resumeEach C.D s1 ((wks0 ids).take (i + 1)))) := Lib.hid (by
        rw [resumeEach_succ HX.out]
        exact hg3.trans HG.out.keep HF.out)
      clear hg3
      go_wp2_with fail
      go_roundw
      case rel => exact ⟨i + 1, by omega, by go_num, HG3.out⟩
      case measure => simp [intOf]; omega
    · obtain rfl : i = n := by omega
      have hnn : ¬ (i : Int) < (i : Int) := by omega
      have HG9 : Hid (Goes w0 C w wr τ rb N (Rm.resumeEach C.D s1 (wks0 ids))) := Lib.hid (by
        have h9 := HG.out
        have hl9 : (wks0 ids).length = i := by unfold wks0; rw [List.length_map, HN.out]
        rw [← hl9, List.take_length] at h9
        exact h9.trans HK.out fun _ _ e => e)
      go_wp2_with fail
      go_end0
      exact ⟨rfl, HG9.out⟩
end
end Go.Proofs.YtnjdmijcoadidaaGreatDoor

namespace Go.Proofs.YtnjdmijcoadidaaGreatDoor
open Go.RowKit Go.Maps Pp

section
variable {α : Type} {w0 : World} {C : DoerW α w0} {w w' w1 w2 : World} {τ τ' : Nat → RR} {rb N N' N1 N2 : Nat} {s s' s1 s2 : Rm.S α} {V : RK → Value} {l : List Hp.E}
/-- What a turn may meet. -/
structure TurnOk (C : DoerW α w0) (s : Rm.S α) (draw : Int) : Prop where
  fits : Fits C s
  live : ∀ t ∈ s.live, t < s.tasks.length
  clock : ∀ e ∈ s.clock, 0 ≤ e.2 ∧ e.2 < (s.tasks.length : Int)
  clockl : s.clock.length ≤ 1000
  fits2 : ∀ t ∈ Rm.ready s, Fits C { s with d := (C.D.next s.d t).1 }
  may : ∀ t ∈ Rm.ready s, May C { s with d := (C.D.next s.d t).1 } t (C.D.next s.d t).2 draw
  live2 : ∀ t ∈ Rm.ready s, ∀ i ∈ (Rm.doA C.D { s with d := (C.D.next s.d t).1 } t (C.D.next s.d t).2 draw).live, i < (Rm.doA C.D { s with d := (C.D.next s.d t).1 } t (C.D.next s.d t).2 draw).tasks.length
  livel2 : ∀ t ∈ Rm.ready s, (Rm.doA C.D { s with d := (C.D.next s.d t).1 } t (C.D.next s.d t).2 draw).live.length ≤ 90000
  tasks2 : ∀ t ∈ Rm.ready s, (Rm.doA C.D { s with d := (C.D.next s.d t).1 } t (C.D.next s.d t).2 draw).tasks.length ≤ 1000000
theorem pickAlloc (w : World) (a b : Int) (t : TypeId) : (w.alloc (.cells #[.int .i64 a, .int .i64 b] t)).cell? ⟨w.heap.size, 0, none⟩ = some (.int .i64 a) ∧ (w.alloc (.cells #[.int .i64 a, .int .i64 b] t)).cell? ⟨w.heap.size, 1, none⟩ = some (.int .i64 b) := by
  refine ⟨?_, ?_⟩
  · rw [World.cell?_alloc_at _ _ _ _ rfl]; rfl
  · rw [World.cell?_alloc_at _ _ _ _ rfl]; rfl
/-- What the two remainders come to. -/
theorem drawn_rem (who : Int) {m : Nat} (hm : 0 < m) (h9 : m ≤ 1000000) : IntKind.i64.wrap (who.tmod (m : Int) + (m : Int)) = who.tmod (m : Int) + (m : Int) ∧ (who.tmod (m : Int) + (m : Int)).tmod (m : Int) = (drawn who m : Nat) ∧ drawn who m < m := by
  have hr : ((drawn who m : Nat) : Int) = who % (m : Int) := by unfold drawn; exact Int.toNat_of_nonneg (Int.emod_nonneg _ (by omega))
  have hlt : who % (m : Int) < m := Int.emod_lt_of_pos _ (by omega)
  have hge : 0 ≤ who % (m : Int) := Int.emod_nonneg _ (by omega)
  have ht : who.tmod (m : Int) = if who < 0 ∧ who % (m : Int) ≠ 0 then who % (m : Int) - m else who % (m : Int) := by
    rw [Int.tmod_eq_emod]
    split <;> split <;> simp_all [Int.dvd_iff_emod_eq_zero] <;> omega
  rw [hr]
  have hb : -(m : Int) ≤ who.tmod (m : Int) ∧ who.tmod (m : Int) ≤ (m : Int) := by rw [ht]; split <;> omega
  refine ⟨IntWalk.i64_in _ (by omega), ?_, by omega⟩
  rw [Int.tmod_eq_emod_of_nonneg (by omega), Int.add_emod_right, ht]
  split
  · rw [Int.sub_emod_right, Int.emod_emod_of_dvd _ (Int.dvd_refl _)]
  · rw [Int.emod_emod_of_dvd _ (Int.dvd_refl _)]
set_option maxRecDepth 100000 in
set_option maxHeartbeats 6400000 in
theorem turnA_any (h : RoomT w0 C w τ rb N s) (hE : ErrT w0) (hN : N ≤ 100000) (who draw : Int) (hok : TurnOk C s draw) :
    Calls Tryz.prog 17 #[.pointer (some ⟨rb, 0, none⟩), .agg #[.int .i64 who, .int .i64 draw]] w fun e w' => e = .returned (.bool (decide (Rm.choices s ≠ 0))) ∧ Goes w0 C w w' τ rb (N + 1) (Rm.turn C.D s who draw) := by
  have hk1 : Keeps (fun _ => False) w (w.alloc (.cells #[.int .i64 who, .int .i64 draw] 43)) := (Keeps.refl (fun _ => False) w).alloc _
  obtain ⟨q0, q1⟩ := pickAlloc w who draw 43
  have hT1 := h.new hk1
  have HDOM : Hid (∀ b, τ b ≠ .free → b < w.heap.size) := Lib.hid (by obtain ⟨V, l, hr⟩ := h; exact hr.dom)
  have HOK := Lib.hid hok
  have HC1 := Lib.hid (choices_any hT1 hok.live hok.fits.live (by have := hok.fits.tasks; omega))
  have HT := Lib.hid hT1
  have HK := Lib.hid hk1
  have HEE := Lib.hid hE
  have hlt1 : w.heap.size < (w.alloc (.cells #[.int .i64 who, .int .i64 draw] 43)).heap.size := by simp
  have HLT1 := Lib.hid hlt1
  have mz : Rm.choices s = 0 → Rm.turn C.D s who draw = s := fun e => if_pos e
  have mw : Rm.choices s ≠ 0 → drawn who (Rm.choices s) = (Rm.ready s).length → Rm.turn C.D s who draw = Rm.wake C.D s := fun e1 e2 => by unfold Rm.turn; rw [if_neg e1]; exact if_pos e2
  have ms : Rm.choices s ≠ 0 → drawn who (Rm.choices s) ≠ (Rm.ready s).length → Rm.turn C.D s who draw = Rm.stepA C.D s ((Rm.ready s).getD (drawn who (Rm.choices s)) 0) draw := fun e1 e2 => by unfold Rm.turn; rw [if_neg e1]; exact if_neg e2
  have hcr : Rm.choices s ≤ (Rm.ready s).length + 1 := by
    unfold Rm.choices
    split
    · split <;> omega
    · omega
  have hrl : (Rm.ready s).length ≤ s.live.length := List.length_filter_le _ _
  have hrb : (Rm.ready s).length ≤ 90000 := by have := hok.fits.live; omega
  generalize Rm.turn C.D s who draw = r at *
  have MZ := Lib.hid mz
  have MW := Lib.hid mw
  have MS := Lib.hid ms
  obtain ⟨m, hm⟩ : ∃ m, m = Rm.choices s := ⟨_, rfl⟩
  have HM := Lib.hid hm
  rw [← hm] at HC1 MZ MW MS hcr ⊢
  obtain ⟨n, hn⟩ : ∃ n, n = (Rm.ready s).length := ⟨_, rfl⟩
  have HNN := Lib.hid hn
  rw [← hn] at MW MS hcr hrb
  clear h hok hk1 hT1 hE mz mw ms hrl hlt1 hm hn
  generalize hw1 : w.alloc (.cells #[.int .i64 who, .int .i64 draw] 43) = w1 at *
  generalize hab : w.heap.size = ab at *
  have HW1 := Lib.hid hw1
  have HAB := Lib.hid hab
  by_cases hz : m = 0
  · subst hz
    obtain rfl := MZ.out rfl
    clear MZ MW MS
    subst hab
    subst hw1
    go_enter Tryz.func17, Tryz.ntmps17
    go_wp2_with fail
    refine HC1.out.mono ?_
    rintro e w2 ⟨rfl, hb2⟩
    have HG := Lib.hid (((Goes.refl HT.out).new (Keeps.of_new hb2)).first HK.out)
    clear hb2 q0 q1
    go_wp2_with fail
    go_ret
    exact ⟨rfl, HG.out.more⟩
  obtain ⟨e2, e3, hkm⟩ := drawn_rem who (m := m) (by omega) (by omega)
  have e0 : ((m : Int) == 0) = false := by rw [beq_eq_false_iff_ne]; omega
  have e1 : ¬ ((m : Int) = 0) := by omega
  have hdec : decide (m ≠ 0) = true := decide_eq_true hz
  rw [hdec]
  by_cases hw : drawn who m = n
  · obtain rfl := MW.out hz hw
    clear MZ MW MS
    rw [hw] at e3
    subst hab
    subst hw1
    go_enter Tryz.func17, Tryz.ntmps17
    go_wp2_with fail
    refine HC1.out.mono ?_
    rintro e w2 ⟨rfl, hb2⟩
    have hk2 : Keeps (fun _ => False) _ w2 := Keeps.of_new hb2
    have hT2 := HT.out.new hk2
    have HC2 := Lib.hid (ready_any hT2 HOK.out.live HOK.out.fits.live (by have := HOK.out.fits.tasks; omega))
    have HT2 := Lib.hid hT2
    have HK2 := Lib.hid hk2
    have p0 := (hb2.cell (p := ⟨w.heap.size, 0, none⟩) HLT1.out).trans q0
    clear hb2 hk2 hT2 q0 q1
    go_wp2_with fail
    refine HC2.out.mono ?_
    rintro e w3 ⟨v, rfl, ho3, hb3⟩
    have hk3 : Keeps (fun _ => False) w2 w3 := Keeps.of_new hb3
    have hT3 := HT2.out.new hk3
    obtain ⟨ao, cap, rfl⟩ := ho3.slice
    rw [List.length_map, ← HNN.out]
    have HC3 := Lib.hid (wakeA_any hT3 HOK.out.fits HOK.out.clock HOK.out.clockl)
    have HK3 := Lib.hid hk3
    have p3 := (hb3.cell (p := ⟨w.heap.size, 0, none⟩) (Nat.lt_of_lt_of_le HLT1.out HK2.out.size)).trans p0
    clear hb3 hk3 hT3 ho3 p0
    go_wp2_with fail
    refine HC3.out.mono ?_
    rintro e w4 ⟨rfl, hg4⟩
    have HG := Lib.hid (((hg4.first HK3.out).first HK2.out).first HK.out)
    clear hg4
    go_wp2_with fail
    go_ret
    exact ⟨rfl, HG.out.more⟩
  · obtain rfl := MS.out hz hw
    clear MZ MW MS
    obtain ⟨k, hk⟩ : ∃ k, k = drawn who m := ⟨_, rfl⟩
    rw [← hk] at e3 hw hkm ⊢
    have hkn : k < n := by omega
    have hkn2 : ((k : Int) == (n : Int)) = false := by rw [beq_eq_false_iff_ne]; omega
    have hkl : k < (Rm.ready s).length := by rw [← HNN.out]; exact hkn
    obtain ⟨t, ht⟩ : ∃ t, t = (Rm.ready s).getD k 0 := ⟨_, rfl⟩
    have htk : (Rm.ready s)[k]? = some t := by rw [ht, List.getD_eq_getElem?_getD, List.getElem?_eq_getElem hkl]; rfl
    have htm : t ∈ Rm.ready s := List.mem_of_getElem? htk
    rw [← ht]
    have HTK := Lib.hid htk
    have HTM := Lib.hid htm
    clear ht htk hkl hk
    generalize hS1 : Rm.doA C.D { s with d := (C.D.next s.d t).1 } t (C.D.next s.d t).2 draw = S1
    have hst : Rm.stepA C.D s t draw = if S1.fin = 0 ∧ Rm.choices S1 = 0 then Rm.ends S1 2 else S1 := by rw [← hS1]; rfl
    rw [hst]
    have HS1 := Lib.hid hS1
    have hl1 := HOK.out.live2 t htm
    have hl2 := HOK.out.livel2 t htm
    have hl3 := HOK.out.tasks2 t htm
    rw [hS1] at hl1 hl2 hl3
    have HL1 := Lib.hid hl1
    have HL2 := Lib.hid hl2
    have HL3 := Lib.hid hl3
    clear hst hS1 hl1 hl2 hl3 htm
    subst hab
    subst hw1
    by_cases hfin : S1.fin = 0
    · by_cases hch : Rm.choices S1 = 0
      · rw [if_pos ⟨hfin, hch⟩]
        go_enter Tryz.func17, Tryz.ntmps17
        go_wp2_with fail
        refine HC1.out.mono ?_
        rintro e w2 ⟨rfl, hb2⟩
        have hk2 : Keeps (fun _ => False) _ w2 := Keeps.of_new hb2
        have hT2 := HT.out.new hk2
        have HC2 := Lib.hid (ready_any hT2 HOK.out.live HOK.out.fits.live (by have := HOK.out.fits.tasks; omega))
        have HT2 := Lib.hid hT2
        have HK2 := Lib.hid hk2
        have p0 := (hb2.cell (p := ⟨w.heap.size, 0, none⟩) HLT1.out).trans q0
        have p1 := (hb2.cell (p := ⟨w.heap.size, 1, none⟩) HLT1.out).trans q1
        clear hb2 hk2 hT2 q0 q1
        go_wp2_with fail
        refine HC2.out.mono ?_
        rintro e w3 ⟨v, rfl, ho3, hb3⟩
        have hk3 : Keeps (fun _ => False) w2 w3 := Keeps.of_new hb3
        have hT3 := HT2.out.new hk3
        have hob : OwnI w3 0 v _ := own_mono ho3 (Nat.zero_le _)
        obtain ⟨g, cap, rfl, hg1, hg2, -, -, hcell⟩ := row_open hob (by rw [List.length_map]; have := HNN.out; omega)
        rw [List.length_map, ← HNN.out] at hg1 ⊢
        have ckk := hcell k _ (show (((Rm.ready s).map fun (i : Nat) => (i : Int)).map (Value.int .i64))[k]? = some (.int .i64 (t : Int)) by rw [List.getElem?_map, List.getElem?_map, HTK.out]; rfl)
        unfold maxLen at hg2
        have htl : t < s.tasks.length := HOK.out.live t (List.mem_filter.1 HTM.out).1
        have HC3 := Lib.hid (next_any hT3 t (by have := HOK.out.fits.num; omega) (by have := HOK.out.fits.num; have := HOK.out.fits.tasks; omega) (by have := HOK.out.fits.big; omega))
        have HK3 := Lib.hid hk3
        have r0 := (hb3.cell (p := ⟨w.heap.size, 0, none⟩) (Nat.lt_of_lt_of_le HLT1.out HK2.out.size)).trans p0
        have r1 := (hb3.cell (p := ⟨w.heap.size, 1, none⟩) (Nat.lt_of_lt_of_le HLT1.out HK2.out.size)).trans p1
        have hkk : (0 : Int) ≤ (k : Int) ∧ (k : Int) < (n : Int) := by omega
        have hfab : τ w.heap.size = .free := Classical.byContradiction fun e => by have := HDOM.out _ e; omega
        have HFAB := Lib.hid hfab
        clear hb3 hk3 hT3 ho3 p0 p1 hob hcell htl hfab
        go_wp2_with fail
        refine HC3.out.mono ?_
        rintro e w4 ⟨va, vc, rfl, hsay, ⟨τ4, hT4, hf4, hv4⟩, hkp4⟩
        obtain ⟨aa, na, ca, rfl, -⟩ := id hsay.args
        obtain ⟨ac, nc, cc, rfl, -⟩ := id hsay.cases
        have hk5 : Keeps (fun _ => False) w4 (w4.alloc (.cells #[.int .i64 (C.D.next s.d t).2.what, .int .i64 (C.D.next s.d t).2.n, .slice aa na ca, .slice ac nc cc] 88)) := (Keeps.refl (fun _ => False) w4).alloc _
        have hc := askAlloc w4 (C.D.next s.d t).2.what (C.D.next s.d t).2.n (.slice aa na ca) (.slice ac nc cc) 88
        have d0 := hc 0 _ rfl
        have d1 := hc 1 _ rfl
        have d2 := hc 2 _ rfl
        have d3 := hc 3 _ rfl
        have u1 := hk5.cell_of (hkp4.cell_of r1 (by rw [HFAB.out]; simp)) id
        have HC4 : Hid (Calls Tryz.prog 46 #[.pointer (some ⟨rb, 0, none⟩), .int .i64 t, .agg #[.int .i64 (C.D.next s.d t).2.what, .int .i64 (C.D.next s.d t).2.n, .slice aa na ca, .slice ac nc cc], .int .i64 draw] _ fun e w' => e = .returned (.tuple #[]) ∧ Goes w0 C (w4.alloc (.cells #[.int .i64 (C.D.next s.d t).2.what, .int .i64 (C.D.next s.d t).2.n, .slice aa na ca, .slice ac nc cc] 88)) w' τ4 rb (N + 1) S1) := Lib.hid (by
          have h9 := doA_any (hT4.new hk5) HEE.out (HOK.out.fits2 t HTM.out) hN t (hsay.keeps hk5 fun _ _ => id) hv4 draw (HOK.out.may t HTM.out)
          rw [HS1.out] at h9
          exact h9)
        have HF4 := Lib.hid hf4
        have HK4 := Lib.hid hkp4
        have HK5 := Lib.hid hk5
        have hw34 : w3.heap.size ≤ w4.heap.size := hkp4.size
        clear hc hsay hT4 hf4 hv4 hkp4 hk5 r0 r1 ckk
        generalize (C.D.next s.d t).2.what = aw at *
        generalize (C.D.next s.d t).2.n = an at *
        go_wp2_with fail
        refine HC4.out.mono ?_
        rintro e w6 ⟨rfl, hg6⟩
        obtain ⟨τ6, ⟨V6, l6, hR6⟩, hf6⟩ := hg6.ex
        have c1 := hR6.c1
        have HR6 := Lib.hid hR6
        have HF6 := Lib.hid hf6
        have HG6 := Lib.hid hg6
        have HBACK : Hid (∀ W S, Goes w0 C w6 W τ6 rb (N + 1) S → Goes w0 C w W τ rb (N + 1) S) := Lib.hid fun W S hg => (((((hg.trans HG6.out.keep HF6.out).first HK5.out).trans HK4.out HF4.out).first HK3.out).first HK2.out).first HK.out
        clear hR6 hf6 hg6 u1 d0 d1 d2 d3
        rw [hfin] at c1
        have HC5 := Lib.hid (choices_any HR6.out.bare HL1.out HL2.out HL3.out)
        rw [hch] at HC5
        go_wp2_with fail
        refine HC5.out.mono ?_
        rintro e w7 ⟨rfl, hb7⟩
        have hk7 : Keeps (fun _ => False) w6 w7 := Keeps.of_new hb7
        have hR7 := HR6.out.new hk7
        have c7 := hR7.c1
        have z7 := hR7.z 1
        have HG := Lib.hid (HBACK.out _ _ ((hR7.goes_ends 2).first hk7))
        clear hR7 hb7 hk7
        go_wp2_with fail
        go_ret
        exact ⟨rfl, HG.out⟩
      · rw [if_neg (fun e => hch e.2)]
        have hcz : ((Rm.choices S1 : Int) == 0) = false := by rw [beq_eq_false_iff_ne]; omega
        go_enter Tryz.func17, Tryz.ntmps17
        go_wp2_with fail
        refine HC1.out.mono ?_
        rintro e w2 ⟨rfl, hb2⟩
        have hk2 : Keeps (fun _ => False) _ w2 := Keeps.of_new hb2
        have hT2 := HT.out.new hk2
        have HC2 := Lib.hid (ready_any hT2 HOK.out.live HOK.out.fits.live (by have := HOK.out.fits.tasks; omega))
        have HT2 := Lib.hid hT2
        have HK2 := Lib.hid hk2
        have p0 := (hb2.cell (p := ⟨w.heap.size, 0, none⟩) HLT1.out).trans q0
        have p1 := (hb2.cell (p := ⟨w.heap.size, 1, none⟩) HLT1.out).trans q1
        clear hb2 hk2 hT2 q0 q1
        go_wp2_with fail
        refine HC2.out.mono ?_
        rintro e w3 ⟨v, rfl, ho3, hb3⟩
        have hk3 : Keeps (fun _ => False) w2 w3 := Keeps.of_new hb3
        have hT3 := HT2.out.new hk3
        have hob : OwnI w3 0 v _ := own_mono ho3 (Nat.zero_le _)
        obtain ⟨g, cap, rfl, hg1, hg2, -, -, hcell⟩ := row_open hob (by rw [List.length_map]; have := HNN.out; omega)
        rw [List.length_map, ← HNN.out] at hg1 ⊢
        have ckk := hcell k _ (show (((Rm.ready s).map fun (i : Nat) => (i : Int)).map (Value.int .i64))[k]? = some (.int .i64 (t : Int)) by rw [List.getElem?_map, List.getElem?_map, HTK.out]; rfl)
        unfold maxLen at hg2
        have htl : t < s.tasks.length := HOK.out.live t (List.mem_filter.1 HTM.out).1
        have HC3 := Lib.hid (next_any hT3 t (by have := HOK.out.fits.num; omega) (by have := HOK.out.fits.num; have := HOK.out.fits.tasks; omega) (by have := HOK.out.fits.big; omega))
        have HK3 := Lib.hid hk3
        have r0 := (hb3.cell (p := ⟨w.heap.size, 0, none⟩) (Nat.lt_of_lt_of_le HLT1.out HK2.out.size)).trans p0
        have r1 := (hb3.cell (p := ⟨w.heap.size, 1, none⟩) (Nat.lt_of_lt_of_le HLT1.out HK2.out.size)).trans p1
        have hkk : (0 : Int) ≤ (k : Int) ∧ (k : Int) < (n : Int) := by omega
        have hfab : τ w.heap.size = .free := Classical.byContradiction fun e => by have := HDOM.out _ e; omega
        have HFAB := Lib.hid hfab
        clear hb3 hk3 hT3 ho3 p0 p1 hob hcell htl hfab
        go_wp2_with fail
        refine HC3.out.mono ?_
        rintro e w4 ⟨va, vc, rfl, hsay, ⟨τ4, hT4, hf4, hv4⟩, hkp4⟩
        obtain ⟨aa, na, ca, rfl, -⟩ := id hsay.args
        obtain ⟨ac, nc, cc, rfl, -⟩ := id hsay.cases
        have hk5 : Keeps (fun _ => False) w4 (w4.alloc (.cells #[.int .i64 (C.D.next s.d t).2.what, .int .i64 (C.D.next s.d t).2.n, .slice aa na ca, .slice ac nc cc] 88)) := (Keeps.refl (fun _ => False) w4).alloc _
        have hc := askAlloc w4 (C.D.next s.d t).2.what (C.D.next s.d t).2.n (.slice aa na ca) (.slice ac nc cc) 88
        have d0 := hc 0 _ rfl
        have d1 := hc 1 _ rfl
        have d2 := hc 2 _ rfl
        have d3 := hc 3 _ rfl
        have u1 := hk5.cell_of (hkp4.cell_of r1 (by rw [HFAB.out]; simp)) id
        have HC4 : Hid (Calls Tryz.prog 46 #[.pointer (some ⟨rb, 0, none⟩), .int .i64 t, .agg #[.int .i64 (C.D.next s.d t).2.what, .int .i64 (C.D.next s.d t).2.n, .slice aa na ca, .slice ac nc cc], .int .i64 draw] _ fun e w' => e = .returned (.tuple #[]) ∧ Goes w0 C (w4.alloc (.cells #[.int .i64 (C.D.next s.d t).2.what, .int .i64 (C.D.next s.d t).2.n, .slice aa na ca, .slice ac nc cc] 88)) w' τ4 rb (N + 1) S1) := Lib.hid (by
          have h9 := doA_any (hT4.new hk5) HEE.out (HOK.out.fits2 t HTM.out) hN t (hsay.keeps hk5 fun _ _ => id) hv4 draw (HOK.out.may t HTM.out)
          rw [HS1.out] at h9
          exact h9)
        have HF4 := Lib.hid hf4
        have HK4 := Lib.hid hkp4
        have HK5 := Lib.hid hk5
        have hw34 : w3.heap.size ≤ w4.heap.size := hkp4.size
        clear hc hsay hT4 hf4 hv4 hkp4 hk5 r0 r1 ckk
        generalize (C.D.next s.d t).2.what = aw at *
        generalize (C.D.next s.d t).2.n = an at *
        go_wp2_with fail
        refine HC4.out.mono ?_
        rintro e w6 ⟨rfl, hg6⟩
        obtain ⟨τ6, ⟨V6, l6, hR6⟩, hf6⟩ := hg6.ex
        have c1 := hR6.c1
        have HR6 := Lib.hid hR6
        have HF6 := Lib.hid hf6
        have HG6 := Lib.hid hg6
        have HBACK : Hid (∀ W S, Goes w0 C w6 W τ6 rb (N + 1) S → Goes w0 C w W τ rb (N + 1) S) := Lib.hid fun W S hg => (((((hg.trans HG6.out.keep HF6.out).first HK5.out).trans HK4.out HF4.out).first HK3.out).first HK2.out).first HK.out
        clear hR6 hf6 hg6 u1 d0 d1 d2 d3
        rw [hfin] at c1
        have HC5 := Lib.hid (choices_any HR6.out.bare HL1.out HL2.out HL3.out)
        go_wp2_with fail
        refine HC5.out.mono ?_
        rintro e w7 ⟨rfl, hb7⟩
        have hk7 : Keeps (fun _ => False) w6 w7 := Keeps.of_new hb7
        have HG := Lib.hid (HBACK.out _ _ ((Goes.refl (HR6.out.new hk7).bare).first hk7))
        clear hb7 hk7
        go_wp2_with fail
        go_ret
        exact ⟨rfl, HG.out⟩
    · rw [if_neg (fun e => hfin e.1)]
      have zfin : (S1.fin == 0) = false := beq_eq_false_iff_ne.2 hfin
      go_enter Tryz.func17, Tryz.ntmps17
      go_wp2_with fail
      refine HC1.out.mono ?_
      rintro e w2 ⟨rfl, hb2⟩
      have hk2 : Keeps (fun _ => False) _ w2 := Keeps.of_new hb2
      have hT2 := HT.out.new hk2
      have HC2 := Lib.hid (ready_any hT2 HOK.out.live HOK.out.fits.live (by have := HOK.out.fits.tasks; omega))
      have HT2 := Lib.hid hT2
      have HK2 := Lib.hid hk2
      have p0 := (hb2.cell (p := ⟨w.heap.size, 0, none⟩) HLT1.out).trans q0
      have p1 := (hb2.cell (p := ⟨w.heap.size, 1, none⟩) HLT1.out).trans q1
      clear hb2 hk2 hT2 q0 q1
      go_wp2_with fail
      refine HC2.out.mono ?_
      rintro e w3 ⟨v, rfl, ho3, hb3⟩
      have hk3 : Keeps (fun _ => False) w2 w3 := Keeps.of_new hb3
      have hT3 := HT2.out.new hk3
      have hob : OwnI w3 0 v _ := own_mono ho3 (Nat.zero_le _)
      obtain ⟨g, cap, rfl, hg1, hg2, -, -, hcell⟩ := row_open hob (by rw [List.length_map]; have := HNN.out; omega)
      rw [List.length_map, ← HNN.out] at hg1 ⊢
      have ckk := hcell k _ (show (((Rm.ready s).map fun (i : Nat) => (i : Int)).map (Value.int .i64))[k]? = some (.int .i64 (t : Int)) by rw [List.getElem?_map, List.getElem?_map, HTK.out]; rfl)
      unfold maxLen at hg2
      have htl : t < s.tasks.length := HOK.out.live t (List.mem_filter.1 HTM.out).1
      have HC3 := Lib.hid (next_any hT3 t (by have := HOK.out.fits.num; omega) (by have := HOK.out.fits.num; have := HOK.out.fits.tasks; omega) (by have := HOK.out.fits.big; omega))
      have HK3 := Lib.hid hk3
      have r0 := (hb3.cell (p := ⟨w.heap.size, 0, none⟩) (Nat.lt_of_lt_of_le HLT1.out HK2.out.size)).trans p0
      have r1 := (hb3.cell (p := ⟨w.heap.size, 1, none⟩) (Nat.lt_of_lt_of_le HLT1.out HK2.out.size)).trans p1
      have hkk : (0 : Int) ≤ (k : Int) ∧ (k : Int) < (n : Int) := by omega
      have hfab : τ w.heap.size = .free := Classical.byContradiction fun e => by have := HDOM.out _ e; omega
      have HFAB := Lib.hid hfab
      clear hb3 hk3 hT3 ho3 p0 p1 hob hcell htl hfab
      go_wp2_with fail
      refine HC3.out.mono ?_
      rintro e w4 ⟨va, vc, rfl, hsay, ⟨τ4, hT4, hf4, hv4⟩, hkp4⟩
      obtain ⟨aa, na, ca, rfl, -⟩ := id hsay.args
      obtain ⟨ac, nc, cc, rfl, -⟩ := id hsay.cases
      have hk5 : Keeps (fun _ => False) w4 (w4.alloc (.cells #[.int .i64 (C.D.next s.d t).2.what, .int .i64 (C.D.next s.d t).2.n, .slice aa na ca, .slice ac nc cc] 88)) := (Keeps.refl (fun _ => False) w4).alloc _
      have hc := askAlloc w4 (C.D.next s.d t).2.what (C.D.next s.d t).2.n (.slice aa na ca) (.slice ac nc cc) 88
      have d0 := hc 0 _ rfl
      have d1 := hc 1 _ rfl
      have d2 := hc 2 _ rfl
      have d3 := hc 3 _ rfl
      have u1 := hk5.cell_of (hkp4.cell_of r1 (by rw [HFAB.out]; simp)) id
      have HC4 : Hid (Calls Tryz.prog 46 #[.pointer (some ⟨rb, 0, none⟩), .int .i64 t, .agg #[.int .i64 (C.D.next s.d t).2.what, .int .i64 (C.D.next s.d t).2.n, .slice aa na ca, .slice ac nc cc], .int .i64 draw] _ fun e w' => e = .returned (.tuple #[]) ∧ Goes w0 C (w4.alloc (.cells #[.int .i64 (C.D.next s.d t).2.what, .int .i64 (C.D.next s.d t).2.n, .slice aa na ca, .slice ac nc cc] 88)) w' τ4 rb (N + 1) S1) := Lib.hid (by
        have h9 := doA_any (hT4.new hk5) HEE.out (HOK.out.fits2 t HTM.out) hN t (hsay.keeps hk5 fun _ _ => id) hv4 draw (HOK.out.may t HTM.out)
        rw [HS1.out] at h9
        exact h9)
      have HF4 := Lib.hid hf4
      have HK4 := Lib.hid hkp4
      have HK5 := Lib.hid hk5
      have hw34 : w3.heap.size ≤ w4.heap.size := hkp4.size
      clear hc hsay hT4 hf4 hv4 hkp4 hk5 r0 r1 ckk
      generalize (C.D.next s.d t).2.what = aw at *
      generalize (C.D.next s.d t).2.n = an at *
      go_wp2_with fail
      refine HC4.out.mono ?_
      rintro e w6 ⟨rfl, hg6⟩
      obtain ⟨τ6, ⟨V6, l6, hR6⟩, hf6⟩ := hg6.ex
      have c1 := hR6.c1
      have HR6 := Lib.hid hR6
      have HF6 := Lib.hid hf6
      have HG6 := Lib.hid hg6
      have HBACK : Hid (∀ W S, Goes w0 C w6 W τ6 rb (N + 1) S → Goes w0 C w W τ rb (N + 1) S) := Lib.hid fun W S hg => (((((hg.trans HG6.out.keep HF6.out).first HK5.out).trans HK4.out HF4.out).first HK3.out).first HK2.out).first HK.out
      clear hR6 hf6 hg6 u1 d0 d1 d2 d3
      have HG := Lib.hid (HBACK.out _ _ (Goes.refl HR6.out.bare))
      go_wp2_with fail
      go_ret
      exact ⟨rfl, HG.out⟩
end
end Go.Proofs.YtnjdmijcoadidaaGreatDoor

namespace Go.Proofs.YtnjdmijcoadidaaGreatDoor
open Go.RowKit Go.Maps Pp

/-- Picks, to be read. -/
def PicksAt (w : World) (v : Value) (l : List (Int × Int)) : Prop :=
  ∃ ao cap, v = .slice ao l.length cap ∧ l.length ≤ cap ∧ cap ≤ maxLen ∧ (0 < l.length → ∃ b o, ao = some ⟨b, o, none⟩ ∧ b < w.heap.size ∧
    ∀ (i : Nat) x, l[i]? = some x → w.cell? ⟨b, o + i * 2, none⟩ = some (.int .i64 x.1) ∧ w.cell? ⟨b, o + i * 2 + 1, none⟩ = some (.int .i64 x.2))
theorem PicksAt.keeps {S : Nat → Prop} {w w' : World} {v : Value} {l : List (Int × Int)} (h : PicksAt w v l) (hk : Keeps S w w') (ho : 0 < l.length → ∀ b, b < w.heap.size → v.ownBlock = some b → ¬ S b) : PicksAt w' v l := by
  obtain ⟨ao, cap, rfl, h1, h2, h3⟩ := h
  refine ⟨ao, cap, rfl, h1, h2, fun h0 => ?_⟩
  obtain ⟨b, o, rfl, h4, h5⟩ := h3 h0
  have hb : ¬ S b := ho h0 b h4 rfl
  exact ⟨b, o, rfl, Nat.lt_of_lt_of_le h4 hk.size, fun i x hx => ⟨hk.cell_of (h5 i x hx).1 hb, hk.cell_of (h5 i x hx).2 hb⟩⟩
section
variable {α : Type} {w0 : World} {C : DoerW α w0} {w w' w1 w2 : World} {τ τ' : Nat → RR} {rb N N' N1 N2 : Nat} {s s' s1 s2 : Rm.S α} {V : RK → Value} {l : List Hp.E}
theorem RoomT.upto (h : RoomT w0 C w τ rb N s) : ∀ k, RoomT w0 C w τ rb (N + k) s
  | 0 => h
  | k + 1 => (h.upto k).more
theorem Goes.upto (h : Goes w0 C w w' τ rb N s) (hN : N ≤ N') : Goes w0 C w w' τ rb N' s := by
  obtain ⟨τ', h1, h2⟩ := h.ex
  refine ⟨⟨τ', ?_, h2⟩, h.keep⟩
  have h3 := h1.upto (N' - N)
  rwa [show N + (N' - N) = N' by omega] at h3
/-- So many turns were taken, and none that could not. -/
theorem play_at (D : Rm.Doer α) : ∀ (l : List (Int × Int)) (s : Rm.S α) (i : Nat) (x : Int × Int), l[i]? = some x → (Rm.play D s (l.take i)).2 = i →
    (Rm.choices (Rm.play D s (l.take i)).1 = 0 → Rm.play D s l = ((Rm.play D s (l.take i)).1, i)) ∧
    (Rm.choices (Rm.play D s (l.take i)).1 ≠ 0 → Rm.play D s (l.take (i + 1)) = (Rm.turn D (Rm.play D s (l.take i)).1 x.1 x.2, i + 1)) := by
  intro l
  induction l with
  | nil => intro s i x hx; cases hx
  | cons p l ih =>
    intro s i x hx hi
    cases i with
    | zero =>
      obtain rfl : p = x := by simpa using hx
      refine ⟨fun h => ?_, fun h => ?_⟩
      · have h' : Rm.choices s = 0 := h
        show Rm.play D s (p :: l) = (s, 0)
        rw [Rm.play, if_pos h']
      · have h' : Rm.choices s ≠ 0 := h
        show Rm.play D s [p] = (Rm.turn D s p.1 p.2, 1)
        rw [Rm.play, if_neg h']; rfl
    | succ i =>
      have hx' : l[i]? = some x := by simpa using hx
      rw [List.take_succ_cons, Rm.play] at hi
      by_cases hc : Rm.choices s = 0
      · rw [if_pos hc] at hi
        exact absurd hi (by simp)
      · rw [if_neg hc] at hi
        have hi' : (Rm.play D (Rm.turn D s p.1 p.2) (l.take i)).2 = i := by simpa using hi
        obtain ⟨h1, h2⟩ := ih (Rm.turn D s p.1 p.2) i x hx' hi'
        have e1 : (Rm.play D s ((p :: l).take (i + 1))).1 = (Rm.play D (Rm.turn D s p.1 p.2) (l.take i)).1 := by rw [List.take_succ_cons, Rm.play, if_neg hc]
        rw [e1]
        refine ⟨fun h => ?_, fun h => ?_⟩
        · rw [Rm.play, if_neg hc, h1 h]
        · rw [List.take_succ_cons, Rm.play, if_neg hc, h2 h]
theorem play_zero (D : Rm.Doer α) (s : Rm.S α) (l : List (Int × Int)) : Rm.play D s (l.take 0) = (s, 0) := rfl
theorem play_le (D : Rm.Doer α) : ∀ (l : List (Int × Int)) (s : Rm.S α), (Rm.play D s l).2 ≤ l.length
  | [], _ => Nat.le_refl _
  | p :: l, s => by
    rw [Rm.play]
    split
    · exact Nat.zero_le _
    · have := play_le D l (Rm.turn D s p.1 p.2)
      simp only [List.length_cons]
      omega
set_option maxRecDepth 100000 in
set_option maxHeartbeats 6400000 in
theorem playA_any (h : RoomT w0 C w τ rb N s) (hE : ErrT w0) {v : Value} {pl : List (Int × Int)} (hp : PicksAt w v pl) (hv : 0 < pl.length → ∀ b, b < w.heap.size → v.ownBlock = some b → τ b = .free) (hN : N + pl.length ≤ 100000)
    (hok : ∀ (i : Nat) x, pl[i]? = some x → (Rm.play C.D s (pl.take i)).2 = i → TurnOk C (Rm.play C.D s (pl.take i)).1 x.2) :
    Calls Tryz.prog 24 #[.pointer (some ⟨rb, 0, none⟩), v] w fun e w' => e = .returned (.int .i64 ((Rm.play C.D s pl).2 : Nat)) ∧ Goes w0 C w w' τ rb (N + pl.length) (Rm.play C.D s pl).1 := by
  have HP : Hid (∀ W, Keeps (fun b => τ b ≠ .free) w W → PicksAt W v pl) := Lib.hid fun W hk => hp.keeps hk fun h0 b hl hb e => e (hv h0 b hl hb)
  have HG0 : Hid (Goes w0 C w w τ rb (N + 0) (Rm.play C.D s (pl.take 0)).1) := Lib.hid (Goes.refl h)
  have HOK := Lib.hid hok
  have HEE := Lib.hid hE
  obtain ⟨ao, cap, rfl, hc1, hc2, -⟩ := hp
  obtain ⟨n, hn⟩ : ∃ n, n = pl.length := ⟨_, rfl⟩
  have HN := Lib.hid hn
  have HNN := Lib.hid hN
  rw [← hn] at hc1 HP hN ⊢
  unfold maxLen at hc2
  clear h hE hv hok hn
  go_enter Tryz.func24, Tryz.ntmps24
  go_wp2_with fail
  go_loopw [9] (fun iv wr => ∃ i : Nat, i ≤ n ∧ iv = .int .i64 i ∧ (Rm.play C.D s (pl.take i)).2 = i ∧ Goes w0 C w wr τ rb (N + i) (Rm.play C.D s (pl.take i)).1) (fun iv _ => n - (intOf iv).toNat)
  case atStart => exact ⟨0, Nat.zero_le _, rfl, rfl, HG0.out⟩
  case round =>
    obtain ⟨i, hi, rfl, hpi, hG⟩ := hrel
    rename World => wr
    have HG := Lib.hid hG
    have HPI := Lib.hid hpi
    clear hG HG0 hpi
    by_cases hin : i < n
    · obtain ⟨⟨x, y⟩, hx⟩ : ∃ x, pl[i]? = some x := ⟨_, List.getElem?_eq_getElem (by rw [← HN.out]; exact hin)⟩
      obtain ⟨a2, k2, e2, -, -, hcell⟩ := HP.out wr HG.out.keep
      rw [← HN.out] at e2 hcell
      obtain ⟨b, o, hao, hbl, hcells⟩ := hcell (by omega)
      injection e2 with ea _ ek
      subst ea hao
      obtain ⟨q0, q1⟩ := hcells i _ hx
      simp only at q0 q1
      obtain ⟨τ1, hT, hf⟩ := HG.out.ex
      have HF := Lib.hid hf
      have hk1 : Keeps (fun _ => False) wr (wr.alloc (.cells #[.int .i64 x, .int .i64 y] 43)) := (Keeps.refl (fun _ => False) wr).alloc _
      obtain ⟨d0, d1⟩ := pickAlloc wr x y 43
      have HK1 := Lib.hid hk1
      have HC := Lib.hid (turnA_any (hT.new hk1) HEE.out (by omega) x y (HOK.out i _ hx HPI.out))
      have hii : (0 : Int) ≤ (i : Int) ∧ (i : Int) < (n : Int) := by omega
      obtain ⟨p1, p2⟩ := play_at C.D pl s i _ hx HPI.out
      have P1 := Lib.hid p1
      have P2 := Lib.hid p2
      clear hcells hcell hx hT hf ek hk1 hbl p1 p2
      by_cases hch : Rm.choices (Rm.play C.D s (pl.take i)).1 = 0
      · rw [hch] at HC
        have HEQ := Lib.hid (P1.out hch)
        go_wp2_with fail
        refine HC.out.mono ?_
        rintro e w3 ⟨rfl, hg3⟩
        have hsame : Rm.turn C.D (Rm.play C.D s (pl.take i)).1 x y = (Rm.play C.D s (pl.take i)).1 := if_pos hch
        rw [hsame] at hg3
        have HG3 : Hid (Goes w0 C w w3 τ rb (N + n) (Rm.play C.D s pl).1) := Lib.hid (by
          rw [HEQ.out]
          exact (((hg3.first HK1.out).trans HG.out.keep HF.out)).upto (by omega))
        clear hg3 hsame
        go_wp2_with fail
        go_ret
        exact ⟨by rw [HEQ.out]; rfl, HG3.out⟩
      · have hdec : decide (Rm.choices (Rm.play C.D s (pl.take i)).1 ≠ 0) = true := decide_eq_true hch
        rw [hdec] at HC
        have HEQ := Lib.hid (P2.out hch)
        go_wp2_with fail
        refine HC.out.mono ?_
        rintro e w3 ⟨rfl, hg3⟩
        have HG3 : Hid (Goes w0 C w w3 τ rb (N + (i + 1)) (Rm.play C.D s (pl.take (i + 1))).1) := Lib.hid (by
          rw [HEQ.out]
          exact ((hg3.first HK1.out).trans HG.out.keep HF.out))
        clear hg3
        go_wp2_with fail
        go_roundw
        case rel => exact ⟨i + 1, by omega, by go_num, by rw [HEQ.out], HG3.out⟩
        case measure => simp [intOf]; omega
    · obtain rfl : i = n := by omega
      have hnn : ¬ (i : Int) < (i : Int) := by omega
      have hall : pl.take i = pl := by rw [HN.out, List.take_length]
      have HALL : Hid ((Rm.play C.D s pl).2 = i ∧ Goes w0 C w wr τ rb (N + i) (Rm.play C.D s pl).1) := Lib.hid (by
        have h8 := HPI.out
        have h9 := HG.out
        rw [hall] at h8 h9
        exact ⟨h8, h9⟩)
      clear hall
      go_wp2_with fail
      go_ret
      exact ⟨by rw [HALL.out.1]; rfl, HALL.out.2⟩
end
end Go.Proofs.YtnjdmijcoadidaaGreatDoor

namespace Go.Proofs.YtnjdmijcoadidaaGreatDoor
open Go.RowKit Go.Maps Pp

theorem cellsEv_len (r : List Rm.Ev) : (cellsEv r).length = r.length * 3 := by
  induction r with
  | nil => rfl
  | cons p r ih =>
    have e : cellsEv (p :: r) = .int .i64 p.task :: .int .i64 p.what :: .int .i64 p.obj :: cellsEv r := rfl
    rw [e]
    simp only [List.length_cons, ih]
    omega
theorem cellsEv_one (r : List Rm.Ev) : ∀ u ∈ cellsEv r, u.oneCell' = true := by
  induction r with
  | nil => intro u hu; simp [cellsEv] at hu
  | cons p r ih =>
    intro u hu
    have e : cellsEv (p :: r) = .int .i64 p.task :: .int .i64 p.what :: .int .i64 p.obj :: cellsEv r := rfl
    rw [e] at hu
    rcases List.mem_cons.1 hu with rfl | hu
    · rfl
    rcases List.mem_cons.1 hu with rfl | hu
    · rfl
    rcases List.mem_cons.1 hu with rfl | hu
    · rfl
    exact ih u hu
set_option maxRecDepth 100000 in
set_option maxHeartbeats 3200000 in
theorem cloneEv_any (w : World) {v : Value} {r : List Rm.Ev} (hl : w.ownsRow 0 70 3 v r.length (cellsEv r)) (h6 : r.length ≤ 1000000000) :
    Calls Tryz.prog 60 #[v] w fun e w' => ∃ u, e = .returned u ∧ w'.ownsRow w.heap.size 70 3 u r.length (cellsEv r) ∧ Below w.heap.size w w' := by
  obtain ⟨i0, hi, hz0, hz1, hz2⟩ := tinfoP info_ev
  have hc := hl
  rcases hl.2 with ⟨rfl, h0⟩ | ⟨g, cap, cur, rfl, hb, hg, h3, h4, h5, h6'⟩
  · obtain rfl : r = [] := List.eq_nil_of_length_eq_zero h0
    have heq := Lib.run_eql_slice_nil (P := Tryz.prog) w 50 70 none 0 0 0 0 Tryz.underlying50
    rw [Option.isNone_none] at heq
    clear hl hc h0
    go_enter Tryz.func60, Tryz.ntmps60
    go_wp2_with fail
    go_ret
    exact ⟨_, rfl, World.ownsRow_nil _ _ _ _, Below.refl _ _⟩
  · obtain ⟨ad, had⟩ : ∃ ad : Addr, ad = ⟨g, 0, none⟩ := ⟨_, rfl⟩
    have HC : Hid (∀ j u, (cellsEv r)[j]? = some u → w.cell? (ad.add j) = some u) := Lib.hid fun j u hu => by rw [had]; exact World.ownsRow.cells hc (g := g) rfl j u hu
    have HL := Lib.hid (cellsEv_len r)
    have h1c := cellsEv_one r
    rw [← had]
    have heq := Lib.run_eql_slice_nil (P := Tryz.prog) w 50 70 (some ad) r.length cap 0 0 Tryz.underlying50
    rw [Option.isNone_some] at heq
    clear hl hc had h5 h6'
    have HOWN : Hid ((w.alloc (.cells #[] 70)).ownsRow w.heap.size 70 3 (.slice (some ⟨w.heap.size, 0, none⟩) 0 0) 0 []) := Lib.hid ⟨rfl, Or.inr ⟨w.heap.size, 0, #[], rfl, Nat.le_refl _, by show (w.heap.push _)[w.heap.size]? = _; simp, Nat.le_refl _, Nat.zero_le _, rfl, rfl⟩⟩
    have HCA : Hid (∀ j u, (cellsEv r)[j]? = some u → (w.alloc (.cells #[] 70)).cell? (ad.add j) = some u) := Lib.hid fun j u hu => by
      exact Go.Lib.cell?_alloc_some _ (HC.out j u hu)
    go_enter Tryz.func60, Tryz.ntmps60
    go_wp2_with (at_builtin; refine wpList_append_own _ rfl _ _ 50 rfl w.heap.size 70 i0 (.agg #[.int .i64 0, .int .i64 0, .int .i64 0]) 3 24 Tryz.underlying50 hi hz0 hz1 hz2 rfl (by decide) _ 0 [] rfl HOWN.out ad r.length cap (cellsEv r) rfl HL.out HCA.out h1c (by unfold maxLen; omega) (by omega) (by simp) ?_)
    intro v' w' ho' hg' _
    have HO := Lib.hid ho'
    have HG := Lib.hid hg'
    clear ho' hg'
    go_wp2_with fail
    go_ret
    refine ⟨_, rfl, ?_, ?_⟩
    · exact HO.out
    · exact ((Below.refl w.heap.size w).alloc (Nat.le_refl _) _).trans ((Keeps.of_grownBy (S := fun g => g = w.heap.size) HG.out fun g _ e => by cases e; rfl).below (by simp) fun g _ e => by omega)

section
variable {α : Type} {w0 : World} {C : DoerW α w0} {w w' w1 w2 : World} {τ τ' : Nat → RR} {rb N N' N1 N2 : Nat} {s s' s1 s2 : Rm.S α} {V : RK → Value} {l : List Hp.E}
set_option maxRecDepth 100000 in
set_option maxHeartbeats 3200000 in
theorem eventsA_any (h : RoomT w0 C w τ rb N s) (hl : s.events.length ≤ 1000000000) :
    Calls Tryz.prog 23 #[.pointer (some ⟨rb, 0, none⟩)] w fun e w' => ∃ u, e = .returned u ∧ w'.ownsRow w.heap.size 70 3 u s.events.length (cellsEv s.events) ∧ Below w.heap.size w w' := by
  obtain ⟨V, l, hr⟩ := h
  have ce : w.cell? ⟨rb, 12, none⟩ = some (V .events) := hr.cv .events
  have HC := Lib.hid (cloneEv_any w (show w.ownsRow 0 70 3 (V .events) s.events.length (cellsEv s.events) from hr.rv .events) hl)
  clear hr
  generalize V .events = v at *
  go_enter Tryz.func23, Tryz.ntmps23
  go_wp2_with fail
  refine HC.out.mono ?_
  rintro e w2 ⟨u, rfl, ho, hb⟩
  have HO := Lib.hid ho
  have HB := Lib.hid hb
  clear ho hb
  go_wp2_with fail
  go_ret
  exact ⟨_, rfl, HO.out, HB.out⟩
end
end Go.Proofs.YtnjdmijcoadidaaGreatDoor

namespace Go.Proofs.YtnjdmijcoadidaaGreatDoor
open Go.RowKit Go.Maps Pp

theorem set8 {V : World} {r : Nat} (a0 a1 a2 a3 a4 a5 a6 a7 : Value) : Keeps (fun k => k = r) V ((((((((V.setCell ⟨r, 0, none⟩ a0).setCell ⟨r, 1, none⟩ a1).setCell ⟨r, 2, none⟩ a2).setCell ⟨r, 3, none⟩ a3).setCell ⟨r, 4, none⟩ a4).setCell ⟨r, 5, none⟩ a5).setCell ⟨r, 6, none⟩ a6).setCell ⟨r, 7, none⟩ a7) :=
  ((((((((Keeps.refl (fun k => k = r) V).setCell (p := ⟨r, 0, none⟩) (Or.inl rfl) a0).setCell (p := ⟨r, 1, none⟩) (Or.inl rfl) a1).setCell (p := ⟨r, 2, none⟩) (Or.inl rfl) a2).setCell (p := ⟨r, 3, none⟩) (Or.inl rfl) a3).setCell (p := ⟨r, 4, none⟩) (Or.inl rfl) a4).setCell (p := ⟨r, 5, none⟩) (Or.inl rfl) a5).setCell (p := ⟨r, 6, none⟩) (Or.inl rfl) a6).setCell (p := ⟨r, 7, none⟩) (Or.inl rfl) a7
theorem get8 {V : World} {r : Nat} (h : ∀ i, i < 8 → ∃ x, V.cell? ⟨r, i, none⟩ = some x) (a0 a1 a2 a3 a4 a5 a6 a7 : Value) :
    ((((((((V.setCell ⟨r, 0, none⟩ a0).setCell ⟨r, 1, none⟩ a1).setCell ⟨r, 2, none⟩ a2).setCell ⟨r, 3, none⟩ a3).setCell ⟨r, 4, none⟩ a4).setCell ⟨r, 5, none⟩ a5).setCell ⟨r, 6, none⟩ a6).setCell ⟨r, 7, none⟩ a7).cell? ⟨r, 0, none⟩ = some a0 ∧ ((((((((V.setCell ⟨r, 0, none⟩ a0).setCell ⟨r, 1, none⟩ a1).setCell ⟨r, 2, none⟩ a2).setCell ⟨r, 3, none⟩ a3).setCell ⟨r, 4, none⟩ a4).setCell ⟨r, 5, none⟩ a5).setCell ⟨r, 6, none⟩ a6).setCell ⟨r, 7, none⟩ a7).cell? ⟨r, 1, none⟩ = some a1 ∧ ((((((((V.setCell ⟨r, 0, none⟩ a0).setCell ⟨r, 1, none⟩ a1).setCell ⟨r, 2, none⟩ a2).setCell ⟨r, 3, none⟩ a3).setCell ⟨r, 4, none⟩ a4).setCell ⟨r, 5, none⟩ a5).setCell ⟨r, 6, none⟩ a6).setCell ⟨r, 7, none⟩ a7).cell? ⟨r, 2, none⟩ = some a2 ∧ ((((((((V.setCell ⟨r, 0, none⟩ a0).setCell ⟨r, 1, none⟩ a1).setCell ⟨r, 2, none⟩ a2).setCell ⟨r, 3, none⟩ a3).setCell ⟨r, 4, none⟩ a4).setCell ⟨r, 5, none⟩ a5).setCell ⟨r, 6, none⟩ a6).setCell ⟨r, 7, none⟩ a7).cell? ⟨r, 3, none⟩ = some a3 ∧ ((((((((V.setCell ⟨r, 0, none⟩ a0).setCell ⟨r, 1, none⟩ a1).setCell ⟨r, 2, none⟩ a2).setCell ⟨r, 3, none⟩ a3).setCell ⟨r, 4, none⟩ a4).setCell ⟨r, 5, none⟩ a5).setCell ⟨r, 6, none⟩ a6).setCell ⟨r, 7, none⟩ a7).cell? ⟨r, 4, none⟩ = some a4 ∧ ((((((((V.setCell ⟨r, 0, none⟩ a0).setCell ⟨r, 1, none⟩ a1).setCell ⟨r, 2, none⟩ a2).setCell ⟨r, 3, none⟩ a3).setCell ⟨r, 4, none⟩ a4).setCell ⟨r, 5, none⟩ a5).setCell ⟨r, 6, none⟩ a6).setCell ⟨r, 7, none⟩ a7).cell? ⟨r, 5, none⟩ = some a5 ∧ ((((((((V.setCell ⟨r, 0, none⟩ a0).setCell ⟨r, 1, none⟩ a1).setCell ⟨r, 2, none⟩ a2).setCell ⟨r, 3, none⟩ a3).setCell ⟨r, 4, none⟩ a4).setCell ⟨r, 5, none⟩ a5).setCell ⟨r, 6, none⟩ a6).setCell ⟨r, 7, none⟩ a7).cell? ⟨r, 6, none⟩ = some a6 ∧ ((((((((V.setCell ⟨r, 0, none⟩ a0).setCell ⟨r, 1, none⟩ a1).setCell ⟨r, 2, none⟩ a2).setCell ⟨r, 3, none⟩ a3).setCell ⟨r, 4, none⟩ a4).setCell ⟨r, 5, none⟩ a5).setCell ⟨r, 6, none⟩ a6).setCell ⟨r, 7, none⟩ a7).cell? ⟨r, 7, none⟩ = some a7 := by
  have o : ∀ {W : World} {i j : Nat} {v : Value}, j ≠ i → (W.setCell ⟨r, j, none⟩ v).cell? ⟨r, i, none⟩ = W.cell? ⟨r, i, none⟩ := fun h => cell_set_other (off_ne h r)
  obtain ⟨x0, h0⟩ := h 0 (by decide)
  obtain ⟨x1, h1⟩ := h 1 (by decide)
  obtain ⟨x2, h2⟩ := h 2 (by decide)
  obtain ⟨x3, h3⟩ := h 3 (by decide)
  obtain ⟨x4, h4⟩ := h 4 (by decide)
  obtain ⟨x5, h5⟩ := h 5 (by decide)
  obtain ⟨x6, h6⟩ := h 6 (by decide)
  obtain ⟨x7, h7⟩ := h 7 (by decide)
  refine ⟨?_, ?_, ?_, ?_, ?_, ?_, ?_, ?_⟩
  · rw [o (by decide), o (by decide), o (by decide), o (by decide), o (by decide), o (by decide), o (by decide)]; exact cell_set_same h0
  · rw [o (by decide), o (by decide), o (by decide), o (by decide), o (by decide), o (by decide)]; exact cell_set_same ((o (by decide)).trans h1)
  · rw [o (by decide), o (by decide), o (by decide), o (by decide), o (by decide)]; exact cell_set_same ((o (by decide)).trans ((o (by decide)).trans h2))
  · rw [o (by decide), o (by decide), o (by decide), o (by decide)]; exact cell_set_same ((o (by decide)).trans ((o (by decide)).trans ((o (by decide)).trans h3)))
  · rw [o (by decide), o (by decide), o (by decide)]; exact cell_set_same ((o (by decide)).trans ((o (by decide)).trans ((o (by decide)).trans ((o (by decide)).trans h4))))
  · rw [o (by decide), o (by decide)]; exact cell_set_same ((o (by decide)).trans ((o (by decide)).trans ((o (by decide)).trans ((o (by decide)).trans ((o (by decide)).trans h5)))))
  · rw [o (by decide)]; exact cell_set_same ((o (by decide)).trans ((o (by decide)).trans ((o (by decide)).trans ((o (by decide)).trans ((o (by decide)).trans ((o (by decide)).trans h6))))))
  · exact cell_set_same ((o (by decide)).trans ((o (by decide)).trans ((o (by decide)).trans ((o (by decide)).trans ((o (by decide)).trans ((o (by decide)).trans ((o (by decide)).trans h7)))))))
theorem find_id {c : List (Int × Int)} {x id : Int} (hn : (c.map (·.2)).Nodup) (h : (x, id) ∈ c) : c.find? (fun e => decide (e.2 = id)) = some (x, id) := by
  induction c with
  | nil => cases h
  | cons p c ih =>
    rw [List.map_cons, List.nodup_cons] at hn
    rcases List.mem_cons.1 h with rfl | h
    · rw [List.find?_cons_of_pos (by simp)]
    · rw [List.find?_cons_of_neg (fun e => ?_), ih hn.2 h]
      have e1 : p.2 = id := of_decide_eq_true e
      exact hn.1 (List.mem_map.2 ⟨_, h, e1.symm⟩)
section
variable {α : Type} {w0 : World} {C : DoerW α w0} {w w' w1 w2 : World} {τ τ' : Nat → RR} {rb N N' N1 N2 : Nat} {s s' s1 s2 : Rm.S α} {V : RK → Value} {l : List Hp.E}
/-- When a task wakes. -/
def whenV (s : Rm.S α) (t : Nat) : Int := ((s.clock.find? fun e => decide (e.2 = (t : Int))).map (·.1)).getD 0
def wakesAt (s : Rm.S α) (k : Nat) : List Int := (s.live.take k).foldl (fun l t => l.set t (whenV s t)) (List.replicate s.tasks.length 0)
def wakesV (s : Rm.S α) : List Int := wakesAt s s.live.length
theorem wakesAt_succ {s : Rm.S α} {i x : Nat} (hx : s.live[i]? = some x) : wakesAt s (i + 1) = (wakesAt s i).set x (whenV s x) := by
  unfold wakesAt
  rw [take_snoc hx, List.foldl_append]; rfl
theorem foldl_set_len (f : Nat → Int) : ∀ (r : List Nat) (l : List Int), (r.foldl (fun l t => l.set t (f t)) l).length = l.length
  | [], _ => rfl
  | x :: r, l => by rw [List.foldl_cons, foldl_set_len f r, List.length_set]
theorem wakesAt_len (s : Rm.S α) (i : Nat) : (wakesAt s i).length = s.tasks.length := by
  unfold wakesAt
  rw [foldl_set_len, List.length_replicate]
theorem roomwhen_any (h : RoomT w0 C w τ rb N s) (t : Nat) (ht : t ≤ 1000000) : Calls Tryz.prog 53 #[.pointer (some ⟨rb, 4, none⟩), .int .i64 t] w fun e w' => ∃ b, e = .returned (.tuple #[.int .i64 (whenV s t), .bool b]) ∧ w = w' := by
  obtain ⟨V, l, hr⟩ := h
  have hn : (s.clock.map (·.2)).Nodup := (hr.cl.map (·.2)).nodup_iff.1 hr.ck.once
  refine (cwhen_any w hr.ck (t : Int) (wf_small _ (by omega))).mono ?_
  rintro e w' ⟨x, b, rfl, rfl, h1 | h1⟩
  · refine ⟨b, ?_, rfl⟩
    have h2 : whenV s t = x := by
      unfold whenV
      rw [find_id hn (hr.cl.mem_iff.1 h1.2)]; rfl
    rw [h2]
  · refine ⟨b, ?_, rfl⟩
    have h2 : whenV s t = 0 := by
      unfold whenV
      rw [List.find?_eq_none.2 fun e he e2 => ?_]
      · rfl
      · exact h1.2.2 (idIn_iff.2 ⟨e, hr.cl.mem_iff.2 he, of_decide_eq_true e2⟩)
    rw [h2, h1.2.1]
set_option maxRecDepth 100000 in
theorem roommade_any (h : RoomT w0 C w τ rb N s) : Calls Tryz.prog 55 #[.pointer (some ⟨rb, 8, none⟩)] w fun e w' => e = .returned (.int .i64 (s.pipes.chs.length : Nat)) ∧ w = w' := by
  obtain ⟨V, l, hr⟩ := h
  obtain ⟨_, vch, ptr, mb, D, h1⟩ := hr.pp
  obtain ⟨av, capv, rfl, h2, h3, -⟩ := ptr_row h1.row
  have c0 : w.cell? ⟨rb, 8, none⟩ = some (.slice av ptr.length capv) := h1.c0
  have hl := h1.len
  rw [← hl]
  clear hr h1 hl
  go_enter Tryz.func55, Tryz.ntmps55
  go_wp2_with fail
  go_ret
  exact ⟨rfl, rfl⟩
theorem roomlook_any (h : RoomT w0 C w τ rb N s) (hN : N ≤ 1000000) : Calls Tryz.prog 57 #[.pointer (some ⟨rb, 8, none⟩)] w fun e w' =>
    ∃ ao cap, e = .returned (.slice ao s.pipes.chs.length cap) ∧ ∃ L, L.map Sn.c = s.pipes.chs ∧ Looked w' w.heap.size (.slice ao s.pipes.chs.length cap) L ∧ Below w.heap.size w w' := by
  obtain ⟨V, l, hr⟩ := h
  exact (look_any hr.pp hN).mono fun _ _ h => h
/-- All that is to be seen of a room. -/
structure HallSays (w' : World) (B : Nat) (v : Value) (s : Rm.S α) : Prop where
  ex : ∃ vt vk vg vp vo, v = .agg #[.int .i64 s.fin, .int .i64 s.now, .int .i64 (s.pipes.chs.length : Nat), vt, vk, vg, vp, vo] ∧ OwnI w' B vt s.tasks ∧ OwnI w' B vk (wakesV s) ∧ OwnI w' B vg s.globals ∧
    (∃ ao cap, vp = .slice ao s.pipes.chs.length cap ∧ ∃ L, L.map Sn.c = s.pipes.chs ∧ Looked w' B vp L) ∧ OwnI w' B vo s.out
theorem OwnI.below {w w' : World} {B : Nat} {v : Value} {xs : List Int} (h : OwnI w B v xs) (hb : Below w.heap.size w w') : OwnI w' B v xs := (Keeps.of_new (S := fun _ => False) hb).row h fun _ _ => id
theorem Looked.keepsS {w w' : World} {B : Nat} {v : Value} {L : List Sn} {r : Nat} (h : Looked w B v L) (hk : Keeps (fun b => b = r) w w') (hr : r < B) : Looked w' B v L :=
  ⟨hk.row h.row fun b hb e => by have := (World.ownsRow.lt h.row b hb).1; omega, fun x hx => (h.seen x hx).keeps hk (fun b hb e => by have := (World.ownsRow.lt (h.seen x hx).nums b hb).1; omega) (fun b hb e => by have := (World.ownsRow.lt (h.seen x hx).sends b hb).1; omega) (fun b hb e => by have := (World.ownsRow.lt (h.seen x hx).recvs b hb).1; omega)⟩
theorem Looked.lower {w : World} {B B' : Nat} {v : Value} {L : List Sn} (h : Looked w B v L) (hB : B' ≤ B) : Looked w B' v L := ⟨own_lower h.row hB, fun x hx => (h.seen x hx).mono hB⟩
theorem OwnI.keepsS {w w' : World} {B : Nat} {v : Value} {xs : List Int} {r : Nat} (h : OwnI w B v xs) (hk : Keeps (fun b => b = r) w w') (hr : r < B) : OwnI w' B v xs := hk.row h fun b hb e => by have := (World.ownsRow.lt h b hb).1; omega
set_option maxRecDepth 100000 in
set_option maxHeartbeats 12800000 in
theorem hallA_any (h : RoomT w0 C w τ rb N s) (hN : N ≤ 1000000) (hv : ∀ t ∈ s.live, t < s.tasks.length) (hl : s.live.length ≤ 90000) (hl2 : s.tasks.length ≤ 1000000) (ho : s.out.length ≤ 1000000) (hg : s.globals.length ≤ 1000000) :
    Calls Tryz.prog 20 #[.pointer (some ⟨rb, 0, none⟩)] w fun e w' => ∃ v, e = .returned v ∧ HallSays w' w.heap.size v s ∧ Below w.heap.size w w' := by
  obtain ⟨m, hm⟩ : ∃ m, m = s.tasks.length := ⟨_, rfl⟩
  obtain ⟨w1, hw1⟩ : ∃ w1, w1 = w.alloc (.cells #[.int .i64 0, .int .i64 0, .int .i64 0, .slice none 0 0, .slice none 0 0, .slice none 0 0, .slice none 0 0, .slice none 0 0] 47) := ⟨_, rfl⟩
  have hk1 : Keeps (fun _ => False) w w1 := by rw [hw1]; exact (Keeps.refl (fun _ => False) w).alloc _
  have hb1 : Below w.heap.size w w1 := by rw [hw1]; exact (Below.refl _ w).alloc (Nat.le_refl _) _
  have hs1 : w1.heap.size = w.heap.size + 1 := by rw [hw1]; simp
  have hcells : ∀ i, i < 8 → ∃ x, w1.cell? ⟨w.heap.size, i, none⟩ = some x ∧ w1.frozen? ⟨w.heap.size, i, none⟩ = false := fun i hi => by
    rw [hw1, World.cell?_alloc_at _ _ _ _ rfl, World.frozen?_alloc_at _ _ _ _ rfl]
    match i, hi with
    | 0, _ => exact ⟨_, rfl, rfl⟩
    | 1, _ => exact ⟨_, rfl, rfl⟩
    | 2, _ => exact ⟨_, rfl, rfl⟩
    | 3, _ => exact ⟨_, rfl, rfl⟩
    | 4, _ => exact ⟨_, rfl, rfl⟩
    | 5, _ => exact ⟨_, rfl, rfl⟩
    | 6, _ => exact ⟨_, rfl, rfl⟩
    | 7, _ => exact ⟨_, rfl, rfl⟩
  have hmk := make_intR m (by omega) w1
  have hmo := made_own w1 m (by omega)
  have hk2 : Keeps (fun _ => False) w1 (w1.alloc (.cells (madeCells #[.int .i64 0] m) 3)) := (Keeps.refl (fun _ => False) w1).alloc _
  have HNE : Hid (¬ rb = w.heap.size) := Lib.hid (by obtain ⟨V, l, hr⟩ := h; have := hr.lt; omega)
  have HDOM : Hid (∀ b, τ b ≠ .free → b < w.heap.size) := Lib.hid (by obtain ⟨V, l, hr⟩ := h; exact hr.dom)
  have HW0 : Hid (w0.heap.size ≤ w.heap.size) := Lib.hid h.bel.size
  have hT1 := h.new hk1
  have hT2 := hT1.new hk2
  obtain ⟨V1, l1, hr1⟩ := hT1
  obtain ⟨at_, ct, hvt, ht1, ht2⟩ := row_slice (hr1.rv .tasks)
  have c2 : w1.cell? ⟨rb, 2, none⟩ = some (.slice at_ m ct) := (hr1.cv .tasks).trans (by rw [hvt, hm]; rfl)
  have hct : m ≤ ct := by rw [hm]; exact ht1
  obtain ⟨al, cl, hvl, hl3, hl4⟩ := row_slice (hr1.rv .live)
  obtain ⟨n, hn⟩ : ∃ n, n = s.live.length := ⟨_, rfl⟩
  have c3 : (w1.alloc (.cells (madeCells #[.int .i64 0] m) 3)).cell? ⟨rb, 3, none⟩ = some (.slice al n cl) := hk2.cell_of ((hr1.cv .live).trans (by rw [hvl, hn]; rfl)) id
  have hncl : n ≤ cl := by rw [hn]; exact hl3
  unfold maxLen at ht2 hl4
  have HM := Lib.hid hm
  have HN := Lib.hid hn
  have HLV := Lib.hid hv
  have HVL := Lib.hid hvl
  have HR1 := Lib.hid hr1
  have HT2 := Lib.hid hT2
  have HB1 := Lib.hid hb1
  have HK2 := Lib.hid hk2
  have HCELLS := Lib.hid hcells
  have HMO := Lib.hid hmo
  have HS1 := Lib.hid hs1
  clear hs1
  have hnl : n ≤ 90000 := by omega
  have HO := Lib.hid ho
  have HG := Lib.hid hg
  have HNN := Lib.hid hN
  have HL2 := Lib.hid hl2
  clear h hN hv hl hl2 ho hg hm hk1 hb1 hcells hmo hk2 hT2 hr1 hvt hvl ht1 hl3 hn
  go_enter Tryz.func20, Tryz.ntmps20
  go_upto_region 3 with fail
  rw [← hw1]
  have HW1 := Lib.hid hw1
  clear hw1
  generalize hhb : w.heap.size = hb at *
  have HHB := Lib.hid hhb
  clear hhb
  go_upto_region 4 with fail
  clear hmk
  generalize hw2 : w1.alloc (.cells (madeCells #[.int .i64 0] m) 3) = w2 at *
  generalize hcb : w1.heap.size = cb at *
  have HCB := Lib.hid hcb
  have HW2 := Lib.hid hw2
  clear hcb hw2
  go_wp2_with fail
  go_loopw [20] (fun iv wr => ∃ i : Nat, i ≤ n ∧ iv = .int .i64 i ∧ OwnI wr cb (.slice (some ⟨cb, 0, none⟩) m m) (wakesAt s i) ∧ Keeps (fun b => b = cb) w2 wr) (fun iv _ => n - (intOf iv).toNat)
  case atStart => exact ⟨0, Nat.zero_le _, rfl, by
    have h9 := HMO.out
    rw [HM.out] at h9 ⊢
    exact h9, Keeps.refl _ _⟩
  case round =>
    obtain ⟨i, hi, rfl, hO, hK⟩ := hrel
    rename World => wr
    have HOW := Lib.hid hO
    have HK := Lib.hid hK
    have hTr : RoomT w0 C wr τ rb N s := HT2.out.keeps hK fun b _ e => ⟨Classical.byContradiction fun e2 => by have := HDOM.out b e2; have := HS1.out; omega, by have := HW0.out; have := HS1.out; omega⟩
    have HTR := Lib.hid hTr
    clear hO hK hTr
    by_cases hin : i < n
    · obtain ⟨t, hx⟩ : ∃ x, s.live[i]? = some x := ⟨_, List.getElem?_eq_getElem (by rw [← HN.out]; exact hin)⟩
      have htm : t < m := by rw [HM.out]; exact HLV.out t (List.mem_of_getElem? hx)
      obtain ⟨g, cap3, hv3, hg1, hg2, hg3, -, hcell⟩ := row_open (HR1.out.rv .live) (show 0 < s.live.length by rw [← HN.out]; omega)
      have e3 := HVL.out.symm.trans hv3
      injection e3 with e4 e5 e6
      have hgc : g < cb := by rw [← HCB.out]; exact hg3
      have hxc := hcell i _ (show (s.live.map fun (i : Nat) => Value.int .i64 (i : Int))[i]? = some (.int .i64 (t : Int)) by rw [List.getElem?_map, hx]; rfl)
      have rx : wr.cell? ⟨g, i, none⟩ = some (.int .i64 (t : Int)) := HK.out.cell_of (HK2.out.cell_of hxc id) (show ¬ g = cb by omega)
      have HC := Lib.hid (roomwhen_any HTR.out t (by have := HL2.out; have := HM.out; omega))
      have hlen : (wakesAt s i).length = m := by rw [wakesAt_len, HM.out]
      have hrow : wr.ownsRow cb 3 1 (.slice (some ⟨cb, 0, none⟩) m m) m ((wakesAt s i).map (.int .i64)) := by
        have h5 := HOW.out
        unfold OwnI at h5
        rw [hlen] at h5
        exact h5
      have qc : wr.cell? ⟨cb, t, none⟩ = some (.int .i64 ((wakesAt s i).getD t 0)) := by
        have h5 := World.ownsRow.cells hrow (g := cb) rfl t _ (ints_at (by rw [hlen]; exact htm))
        rw [addr_addP, Nat.zero_add] at h5
        exact h5
      have qz : wr.frozen? ⟨cb, t, none⟩ = false := by
        rcases hrow.2 with ⟨q, _⟩ | ⟨g, c9, cur, q, _, hg9, _⟩
        · cases q
        · cases q
          exact frozen_of_row wr _ _ _ _ hg9
      have HJ : Hid (∀ x, x = whenV s t → OwnI (wr.setCell ⟨cb, t, none⟩ (.int .i64 x)) cb (.slice (some ⟨cb, 0, none⟩) m m) (wakesAt s (i + 1)) ∧ Keeps (fun b => b = cb) w2 (wr.setCell ⟨cb, t, none⟩ (.int .i64 x))) := Lib.hid fun x hx9 => by
        refine ⟨?_, HK.out.setCell (p := ⟨cb, t, none⟩) (Or.inl rfl) _⟩
        have h5 := own_setG (off := t) hrow (.int .i64 x)
        rw [← List.map_set, hx9, ← wakesAt_succ hx] at h5
        unfold OwnI
        rw [wakesAt_len, ← HM.out, hx9]
        exact h5
      obtain ⟨y, hy⟩ : ∃ y, y = (wakesAt s i).getD t 0 := ⟨_, rfl⟩
      rw [← hy] at qc
      subst e4
      have hii : (0 : Int) ≤ (i : Int) ∧ (i : Int) < (n : Int) := by omega
      have htt : (0 : Int) ≤ (t : Int) ∧ (t : Int) < (m : Int) := by omega
      obtain ⟨x, hx9⟩ : ∃ x, x = whenV s t := ⟨_, rfl⟩
      rw [← hx9] at HC
      have HJ2 := Lib.hid (HJ.out x hx9)
      clear hv3 hcell hxc hrow hlen hy hx hg1 hg2 hg3 hgc e5 e6 htm hx9 HJ
      go_wp2_with fail
      refine HC.out.mono ?_
      rintro e w5 ⟨b, rfl, rfl⟩
      go_wp2_with fail
      go_roundw
      case rel => exact ⟨i + 1, by omega, by go_num, HJ2.out.1, HJ2.out.2⟩
      case measure => simp [intOf]; omega
    · obtain rfl : i = n := by omega
      have hnn : ¬ (i : Int) < (i : Int) := by omega
      obtain ⟨V5, l5, hr5⟩ := HTR.out
      have c1 := hr5.c1
      have c2' : wr.cell? ⟨rb, 2, none⟩ = some (V5 .tasks) := hr5.cv .tasks
      have c10 : wr.cell? ⟨rb, 10, none⟩ = some (V5 .globals) := hr5.cv .globals
      have c11 : wr.cell? ⟨rb, 11, none⟩ = some (V5 .out) := hr5.cv .out
      have HRT := Lib.hid (show OwnI wr 0 (V5 .tasks) s.tasks from hr5.rv .tasks)
      have HRG := Lib.hid (show OwnI wr 0 (V5 .globals) s.globals from hr5.rv .globals)
      have HRO := Lib.hid (show OwnI wr 0 (V5 .out) s.out from hr5.rv .out)
      have hrlt := hr5.lt
      clear hr5
      generalize V5 .tasks = vT at *
      generalize V5 .globals = vG at *
      generalize V5 .out = vO at *
      have HKD : Hid (Below wr.heap.size wr wr.drew) := Lib.hid (Below.refl _ _).drew
      have HW0d : Hid (Below wr.heap.size wr wr.drew ∧ rb < wr.drew.heap.size) := Lib.hid ⟨(Below.refl _ _).drew, hrlt⟩
      go_upto_region 9 with fail
      clear c2 c3
      refine wp_region_held_drew (S := (fun W : World => W.cell? ⟨rb, 1, none⟩ = some (.int .i64 s.fin) ∧ W.cell? ⟨rb, 2, none⟩ = some vT ∧ W.cell? ⟨rb, 10, none⟩ = some vG ∧ W.cell? ⟨rb, 11, none⟩ = some vO)) (by kernel_rfl) ⟨by simp only [World.cell?_drew]; assumption, by simp only [World.cell?_drew]; assumption, by simp only [World.cell?_drew]; assumption, by simp only [World.cell?_drew]; assumption⟩ (fun hHeld => ?_)
      refine wpAnyH_take (i := 0) (oi := { dst := some 36, op := _, type := _, pos := _, after := _, guard := _ }) (v := .pointer (some ⟨rb, 0, none⟩)) rfl (by kernel_rfl) (by kernel_rfl) (by kernel_rfl) (fun _ _ _ h => h) (Or.inl ⟨by rfl, ?_⟩) hHeld ?_
      · intro W9 hSW
        (try dsimp only at hSW)
        go_simp
      try simp only [Act.put, List.setIfInBounds_toArray, List.set_cons_zero, List.set_cons_succ]
      refine wpAnyH_take (i := 1) (oi := { dst := some 37, op := _, type := _, pos := _, after := _, guard := _ }) (v := .pointer (some ⟨rb, 0, none⟩)) rfl (by kernel_rfl) (by kernel_rfl) (by kernel_rfl) (fun _ _ _ h => h) (Or.inl ⟨by rfl, ?_⟩) hHeld ?_
      · intro W9 hSW
        (try dsimp only at hSW)
        go_simp
      try simp only [Act.put, List.setIfInBounds_toArray, List.set_cons_zero, List.set_cons_succ]
      refine wpAnyH_take (i := 2) (oi := { dst := some 38, op := _, type := _, pos := _, after := _, guard := _ }) (v := .pointer (some ⟨rb, 1, none⟩)) rfl (by kernel_rfl) (by kernel_rfl) (by kernel_rfl) (fun _ _ _ h => h) (Or.inl ⟨by rfl, ?_⟩) hHeld ?_
      · intro W9 hSW
        (try dsimp only at hSW)
        go_simp
      try simp only [Act.put, List.setIfInBounds_toArray, List.set_cons_zero, List.set_cons_succ]
      refine wpAnyH_take (i := 3) (oi := { dst := some 39, op := _, type := _, pos := _, after := _, guard := _ }) (v := .int .i64 s.fin) rfl (by kernel_rfl) (by kernel_rfl) (by kernel_rfl) (fun _ _ _ h => h) (Or.inl ⟨by rfl, ?_⟩) hHeld ?_
      · intro W9 hSW
        (try dsimp only at hSW)
        go_simp
      try simp only [Act.put, List.setIfInBounds_toArray, List.set_cons_zero, List.set_cons_succ]
      refine wpAnyH_take (i := 4) (oi := { dst := some 40, op := _, type := _, pos := _, after := _, guard := _ }) (v := .pointer (some ⟨rb, 0, none⟩)) rfl (by kernel_rfl) (by kernel_rfl) (by kernel_rfl) (fun _ _ _ h => h) (Or.inl ⟨by rfl, ?_⟩) hHeld ?_
      · intro W9 hSW
        (try dsimp only at hSW)
        go_simp
      try simp only [Act.put, List.setIfInBounds_toArray, List.set_cons_zero, List.set_cons_succ]
      refine wpAnyH_take (i := 5) (oi := { dst := some 41, op := _, type := _, pos := _, after := _, guard := _ }) (v := .pointer (some ⟨rb, 0, none⟩)) rfl (by kernel_rfl) (by kernel_rfl) (by kernel_rfl) (fun _ _ _ h => h) (Or.inl ⟨by rfl, ?_⟩) hHeld ?_
      · intro W9 hSW
        (try dsimp only at hSW)
        go_simp
      try simp only [Act.put, List.setIfInBounds_toArray, List.set_cons_zero, List.set_cons_succ]
      refine wpAnyH_take (i := 6) (oi := { dst := some 42, op := _, type := _, pos := _, after := _, guard := _ }) (v := .pointer (some ⟨rb, 4, none⟩)) rfl (by kernel_rfl) (by kernel_rfl) (by kernel_rfl) (fun _ _ _ h => h) (Or.inl ⟨by rfl, ?_⟩) hHeld ?_
      · intro W9 hSW
        (try dsimp only at hSW)
        go_simp
      try simp only [Act.put, List.setIfInBounds_toArray, List.set_cons_zero, List.set_cons_succ]
      refine wpAnyH_take (i := 8) (oi := { dst := some 44, op := _, type := _, pos := _, after := _, guard := _ }) (v := .pointer (some ⟨rb, 0, none⟩)) rfl (by kernel_rfl) (by kernel_rfl) (by kernel_rfl) (fun _ _ _ h => h) (Or.inl ⟨by rfl, ?_⟩) hHeld ?_
      · intro W9 hSW
        (try dsimp only at hSW)
        go_simp
      try simp only [Act.put, List.setIfInBounds_toArray, List.set_cons_zero, List.set_cons_succ]
      refine wpAnyH_take (i := 9) (oi := { dst := some 45, op := _, type := _, pos := _, after := _, guard := _ }) (v := .pointer (some ⟨rb, 0, none⟩)) rfl (by kernel_rfl) (by kernel_rfl) (by kernel_rfl) (fun _ _ _ h => h) (Or.inl ⟨by rfl, ?_⟩) hHeld ?_
      · intro W9 hSW
        (try dsimp only at hSW)
        go_simp
      try simp only [Act.put, List.setIfInBounds_toArray, List.set_cons_zero, List.set_cons_succ]
      refine wpAnyH_take (i := 10) (oi := { dst := some 46, op := _, type := _, pos := _, after := _, guard := _ }) (v := .pointer (some ⟨rb, 8, none⟩)) rfl (by kernel_rfl) (by kernel_rfl) (by kernel_rfl) (fun _ _ _ h => h) (Or.inl ⟨by rfl, ?_⟩) hHeld ?_
      · intro W9 hSW
        (try dsimp only at hSW)
        go_simp
      try simp only [Act.put, List.setIfInBounds_toArray, List.set_cons_zero, List.set_cons_succ]
      refine wpAnyH_take (i := 12) (oi := { dst := some 48, op := _, type := _, pos := _, after := _, guard := _ }) (v := .pointer (some ⟨rb, 0, none⟩)) rfl (by kernel_rfl) (by kernel_rfl) (by kernel_rfl) (fun _ _ _ h => h) (Or.inl ⟨by rfl, ?_⟩) hHeld ?_
      · intro W9 hSW
        (try dsimp only at hSW)
        go_simp
      try simp only [Act.put, List.setIfInBounds_toArray, List.set_cons_zero, List.set_cons_succ]
      refine wpAnyH_take (i := 13) (oi := { dst := some 49, op := _, type := _, pos := _, after := _, guard := _ }) (v := .pointer (some ⟨rb, 0, none⟩)) rfl (by kernel_rfl) (by kernel_rfl) (by kernel_rfl) (fun _ _ _ h => h) (Or.inl ⟨by rfl, ?_⟩) hHeld ?_
      · intro W9 hSW
        (try dsimp only at hSW)
        go_simp
      try simp only [Act.put, List.setIfInBounds_toArray, List.set_cons_zero, List.set_cons_succ]
      refine wpAnyH_take (i := 14) (oi := { dst := some 50, op := _, type := _, pos := _, after := _, guard := _ }) (v := .pointer (some ⟨rb, 2, none⟩)) rfl (by kernel_rfl) (by kernel_rfl) (by kernel_rfl) (fun _ _ _ h => h) (Or.inl ⟨by rfl, ?_⟩) hHeld ?_
      · intro W9 hSW
        (try dsimp only at hSW)
        go_simp
      try simp only [Act.put, List.setIfInBounds_toArray, List.set_cons_zero, List.set_cons_succ]
      refine wpAnyH_take (i := 15) (oi := { dst := some 51, op := _, type := _, pos := _, after := _, guard := _ }) (v := vT) rfl (by kernel_rfl) (by kernel_rfl) (by kernel_rfl) (fun _ _ _ h => h) (Or.inl ⟨by rfl, ?_⟩) hHeld ?_
      · intro W9 hSW
        (try dsimp only at hSW)
        go_simp
      try simp only [Act.put, List.setIfInBounds_toArray, List.set_cons_zero, List.set_cons_succ]
      refine wpAnyH_take (i := 17) (oi := { dst := some 53, op := _, type := _, pos := _, after := _, guard := _ }) (v := .slice (some ⟨cb, 0, none⟩) m m) rfl (by kernel_rfl) (by kernel_rfl) (by kernel_rfl) (fun _ _ _ h => h) (Or.inl ⟨by rfl, ?_⟩) hHeld ?_
      · intro W9 hSW
        (try dsimp only at hSW)
        go_simp
      try simp only [Act.put, List.setIfInBounds_toArray, List.set_cons_zero, List.set_cons_succ]
      refine wpAnyH_take (i := 18) (oi := { dst := some 54, op := _, type := _, pos := _, after := _, guard := _ }) (v := .pointer (some ⟨rb, 0, none⟩)) rfl (by kernel_rfl) (by kernel_rfl) (by kernel_rfl) (fun _ _ _ h => h) (Or.inl ⟨by rfl, ?_⟩) hHeld ?_
      · intro W9 hSW
        (try dsimp only at hSW)
        go_simp
      try simp only [Act.put, List.setIfInBounds_toArray, List.set_cons_zero, List.set_cons_succ]
      refine wpAnyH_take (i := 19) (oi := { dst := some 55, op := _, type := _, pos := _, after := _, guard := _ }) (v := .pointer (some ⟨rb, 0, none⟩)) rfl (by kernel_rfl) (by kernel_rfl) (by kernel_rfl) (fun _ _ _ h => h) (Or.inl ⟨by rfl, ?_⟩) hHeld ?_
      · intro W9 hSW
        (try dsimp only at hSW)
        go_simp
      try simp only [Act.put, List.setIfInBounds_toArray, List.set_cons_zero, List.set_cons_succ]
      refine wpAnyH_take (i := 20) (oi := { dst := some 56, op := _, type := _, pos := _, after := _, guard := _ }) (v := .pointer (some ⟨rb, 10, none⟩)) rfl (by kernel_rfl) (by kernel_rfl) (by kernel_rfl) (fun _ _ _ h => h) (Or.inl ⟨by rfl, ?_⟩) hHeld ?_
      · intro W9 hSW
        (try dsimp only at hSW)
        go_simp
      try simp only [Act.put, List.setIfInBounds_toArray, List.set_cons_zero, List.set_cons_succ]
      refine wpAnyH_take (i := 21) (oi := { dst := some 57, op := _, type := _, pos := _, after := _, guard := _ }) (v := vG) rfl (by kernel_rfl) (by kernel_rfl) (by kernel_rfl) (fun _ _ _ h => h) (Or.inl ⟨by rfl, ?_⟩) hHeld ?_
      · intro W9 hSW
        (try dsimp only at hSW)
        go_simp
      try simp only [Act.put, List.setIfInBounds_toArray, List.set_cons_zero, List.set_cons_succ]
      refine wpAnyH_take (i := 23) (oi := { dst := some 59, op := _, type := _, pos := _, after := _, guard := _ }) (v := .pointer (some ⟨rb, 0, none⟩)) rfl (by kernel_rfl) (by kernel_rfl) (by kernel_rfl) (fun _ _ _ h => h) (Or.inl ⟨by rfl, ?_⟩) hHeld ?_
      · intro W9 hSW
        (try dsimp only at hSW)
        go_simp
      try simp only [Act.put, List.setIfInBounds_toArray, List.set_cons_zero, List.set_cons_succ]
      refine wpAnyH_take (i := 24) (oi := { dst := some 60, op := _, type := _, pos := _, after := _, guard := _ }) (v := .pointer (some ⟨rb, 0, none⟩)) rfl (by kernel_rfl) (by kernel_rfl) (by kernel_rfl) (fun _ _ _ h => h) (Or.inl ⟨by rfl, ?_⟩) hHeld ?_
      · intro W9 hSW
        (try dsimp only at hSW)
        go_simp
      try simp only [Act.put, List.setIfInBounds_toArray, List.set_cons_zero, List.set_cons_succ]
      refine wpAnyH_take (i := 25) (oi := { dst := some 61, op := _, type := _, pos := _, after := _, guard := _ }) (v := .pointer (some ⟨rb, 8, none⟩)) rfl (by kernel_rfl) (by kernel_rfl) (by kernel_rfl) (fun _ _ _ h => h) (Or.inl ⟨by rfl, ?_⟩) hHeld ?_
      · intro W9 hSW
        (try dsimp only at hSW)
        go_simp
      try simp only [Act.put, List.setIfInBounds_toArray, List.set_cons_zero, List.set_cons_succ]
      refine wpAnyH_take (i := 27) (oi := { dst := some 63, op := _, type := _, pos := _, after := _, guard := _ }) (v := .pointer (some ⟨rb, 0, none⟩)) rfl (by kernel_rfl) (by kernel_rfl) (by kernel_rfl) (fun _ _ _ h => h) (Or.inl ⟨by rfl, ?_⟩) hHeld ?_
      · intro W9 hSW
        (try dsimp only at hSW)
        go_simp
      try simp only [Act.put, List.setIfInBounds_toArray, List.set_cons_zero, List.set_cons_succ]
      refine wpAnyH_take (i := 28) (oi := { dst := some 64, op := _, type := _, pos := _, after := _, guard := _ }) (v := .pointer (some ⟨rb, 0, none⟩)) rfl (by kernel_rfl) (by kernel_rfl) (by kernel_rfl) (fun _ _ _ h => h) (Or.inl ⟨by rfl, ?_⟩) hHeld ?_
      · intro W9 hSW
        (try dsimp only at hSW)
        go_simp
      try simp only [Act.put, List.setIfInBounds_toArray, List.set_cons_zero, List.set_cons_succ]
      refine wpAnyH_take (i := 29) (oi := { dst := some 65, op := _, type := _, pos := _, after := _, guard := _ }) (v := .pointer (some ⟨rb, 11, none⟩)) rfl (by kernel_rfl) (by kernel_rfl) (by kernel_rfl) (fun _ _ _ h => h) (Or.inl ⟨by rfl, ?_⟩) hHeld ?_
      · intro W9 hSW
        (try dsimp only at hSW)
        go_simp
      try simp only [Act.put, List.setIfInBounds_toArray, List.set_cons_zero, List.set_cons_succ]
      refine wpAnyH_take (i := 30) (oi := { dst := some 66, op := _, type := _, pos := _, after := _, guard := _ }) (v := vO) rfl (by kernel_rfl) (by kernel_rfl) (by kernel_rfl) (fun _ _ _ h => h) (Or.inl ⟨by rfl, ?_⟩) hHeld ?_
      · intro W9 hSW
        (try dsimp only at hSW)
        go_simp
      try simp only [Act.put, List.setIfInBounds_toArray, List.set_cons_zero, List.set_cons_succ]
      refine wpAnyH_ready (rs := [7]) (by kernel_rfl) (by simp) ?_
      refine AllReadyH.cons (o := { dst := some 43, op := _, type := _, pos := _, after := _, guard := _ }) rfl (fun K hK => ?_) AllReadyH.nil
      go_simp
      refine (roomnow_any (HTR.out.new (Keeps.of_new HKD.out))).mono ?_
      rintro e W ⟨rfl, rfl⟩
      refine hK.out _ _ hHeld (fun hHeld => ?_)
      clear hK K
      refine wpAnyH_ready (rs := [11]) (by kernel_rfl) (by simp) ?_
      refine AllReadyH.cons (o := { dst := some 47, op := _, type := _, pos := _, after := _, guard := _ }) rfl (fun K hK => ?_) AllReadyH.nil
      go_simp
      refine (roommade_any (HTR.out.new (Keeps.of_new HKD.out))).mono ?_
      rintro e W ⟨rfl, rfl⟩
      refine hK.out _ _ hHeld (fun hHeld => ?_)
      clear hK K
      refine wpAnyH_ready (rs := [16]) (by kernel_rfl) (by simp) ?_
      refine AllReadyH.cons (o := { dst := some 52, op := _, type := _, pos := _, after := _, guard := _ }) rfl (fun K hK => ?_) AllReadyH.nil
      go_simp
      refine (cloneI_any wr.drew ((HRT.out.below HW0d.out.1).ints) (by have := HL2.out; exact this)).mono ?_
      rintro e W1 ⟨u1, rfl, ho, hb⟩
      have hq : rb < wr.drew.heap.size := HW0d.out.2
      have hS2 : (fun W : World => W.cell? ⟨rb, 1, none⟩ = some (.int .i64 s.fin) ∧ W.cell? ⟨rb, 2, none⟩ = some vT ∧ W.cell? ⟨rb, 10, none⟩ = some vG ∧ W.cell? ⟨rb, 11, none⟩ = some vO) W1 := ⟨(hb.cell (p := ⟨rb, 1, none⟩) hq).trans hHeld.1, (hb.cell (p := ⟨rb, 2, none⟩) hq).trans hHeld.2.1, (hb.cell (p := ⟨rb, 10, none⟩) hq).trans hHeld.2.2.1, (hb.cell (p := ⟨rb, 11, none⟩) hq).trans hHeld.2.2.2⟩
      have HW1 : Hid (Below wr.heap.size wr W1 ∧ rb < W1.heap.size) := Lib.hid ⟨bel_step HW0d.out.1 hb, Nat.lt_of_lt_of_le hq hb.size⟩
      have HBW1 := Lib.hid hb
      obtain ⟨x1, k1, rfl⟩ := ho.slice
      have HU1 := Lib.hid ho
      clear ho
      go_simp
      dsimp only at hS2
      refine hK.out _ _ hS2 (fun hHeld => ?_)
      clear hK K hb hq hS2
      refine wpAnyH_ready (rs := [22]) (by kernel_rfl) (by simp) ?_
      refine AllReadyH.cons (o := { dst := some 58, op := _, type := _, pos := _, after := _, guard := _ }) rfl (fun K hK => ?_) AllReadyH.nil
      go_simp
      refine (cloneI_any W1 ((HRG.out.below HW1.out.1).ints) HG.out).mono ?_
      rintro e W2 ⟨u2, rfl, ho, hb⟩
      have hq : rb < W1.heap.size := HW1.out.2
      have hS2 : (fun W : World => W.cell? ⟨rb, 1, none⟩ = some (.int .i64 s.fin) ∧ W.cell? ⟨rb, 2, none⟩ = some vT ∧ W.cell? ⟨rb, 10, none⟩ = some vG ∧ W.cell? ⟨rb, 11, none⟩ = some vO) W2 := ⟨(hb.cell (p := ⟨rb, 1, none⟩) hq).trans hHeld.1, (hb.cell (p := ⟨rb, 2, none⟩) hq).trans hHeld.2.1, (hb.cell (p := ⟨rb, 10, none⟩) hq).trans hHeld.2.2.1, (hb.cell (p := ⟨rb, 11, none⟩) hq).trans hHeld.2.2.2⟩
      have HW2 : Hid (Below wr.heap.size wr W2 ∧ rb < W2.heap.size) := Lib.hid ⟨bel_step HW1.out.1 hb, Nat.lt_of_lt_of_le hq hb.size⟩
      have HBW2 := Lib.hid hb
      obtain ⟨x2, k2, rfl⟩ := ho.slice
      have HU2 := Lib.hid ho
      clear ho
      go_simp
      dsimp only at hS2
      refine hK.out _ _ hS2 (fun hHeld => ?_)
      clear hK K hb hq hS2
      refine wpAnyH_ready (rs := [26]) (by kernel_rfl) (by simp) ?_
      refine AllReadyH.cons (o := { dst := some 62, op := _, type := _, pos := _, after := _, guard := _ }) rfl (fun K hK => ?_) AllReadyH.nil
      go_simp
      refine (roomlook_any (HTR.out.new (Keeps.of_new HW2.out.1)) HNN.out).mono ?_
      rintro e W3 ⟨ao3, cap3, rfl, L, hL, ho, hb⟩
      have hq : rb < W2.heap.size := HW2.out.2
      have hS2 : (fun W : World => W.cell? ⟨rb, 1, none⟩ = some (.int .i64 s.fin) ∧ W.cell? ⟨rb, 2, none⟩ = some vT ∧ W.cell? ⟨rb, 10, none⟩ = some vG ∧ W.cell? ⟨rb, 11, none⟩ = some vO) W3 := ⟨(hb.cell (p := ⟨rb, 1, none⟩) hq).trans hHeld.1, (hb.cell (p := ⟨rb, 2, none⟩) hq).trans hHeld.2.1, (hb.cell (p := ⟨rb, 10, none⟩) hq).trans hHeld.2.2.1, (hb.cell (p := ⟨rb, 11, none⟩) hq).trans hHeld.2.2.2⟩
      have HW3 : Hid (Below wr.heap.size wr W3 ∧ rb < W3.heap.size) := Lib.hid ⟨bel_step HW2.out.1 hb, Nat.lt_of_lt_of_le hq hb.size⟩
      have HBW3 := Lib.hid hb
      have HU3 := Lib.hid ho
      have HL3 := Lib.hid hL
      clear ho hL
      go_simp
      dsimp only at hS2
      refine hK.out _ _ hS2 (fun hHeld => ?_)
      clear hK K hb hq hS2
      refine wpAnyH_ready (rs := [31]) (by kernel_rfl) (by simp) ?_
      refine AllReadyH.cons (o := { dst := some 67, op := _, type := _, pos := _, after := _, guard := _ }) rfl (fun K hK => ?_) AllReadyH.nil
      go_simp
      refine (cloneI_any W3 ((HRO.out.below HW3.out.1).ints) HO.out).mono ?_
      rintro e W4 ⟨u4, rfl, ho, hb⟩
      have hq : rb < W3.heap.size := HW3.out.2
      have hS2 : (fun W : World => W.cell? ⟨rb, 1, none⟩ = some (.int .i64 s.fin) ∧ W.cell? ⟨rb, 2, none⟩ = some vT ∧ W.cell? ⟨rb, 10, none⟩ = some vG ∧ W.cell? ⟨rb, 11, none⟩ = some vO) W4 := ⟨(hb.cell (p := ⟨rb, 1, none⟩) hq).trans hHeld.1, (hb.cell (p := ⟨rb, 2, none⟩) hq).trans hHeld.2.1, (hb.cell (p := ⟨rb, 10, none⟩) hq).trans hHeld.2.2.1, (hb.cell (p := ⟨rb, 11, none⟩) hq).trans hHeld.2.2.2⟩
      have HW4 : Hid (Below wr.heap.size wr W4 ∧ rb < W4.heap.size) := Lib.hid ⟨bel_step HW3.out.1 hb, Nat.lt_of_lt_of_le hq hb.size⟩
      have HBW4 := Lib.hid hb
      obtain ⟨x4, k4, rfl⟩ := ho.slice
      have HU4 := Lib.hid ho
      clear ho
      go_simp
      dsimp only at hS2
      refine hK.out _ _ hS2 (fun hHeld => ?_)
      clear hK K hb hq hS2
      refine wpAnyH_take (i := 32) (oi := { dst := some 68, op := _, type := _, pos := _, after := _, guard := _ }) (v := .agg #[.int .i64 s.fin, .int .i64 s.now, .int .i64 (s.pipes.chs.length : Nat), .slice x1 s.tasks.length k1, .slice (some ⟨cb, 0, none⟩) m m, .slice x2 s.globals.length k2, .slice ao3 s.pipes.chs.length cap3, .slice x4 s.out.length k4]) rfl (by kernel_rfl) (by kernel_rfl) (by kernel_rfl) (fun _ _ _ h => h) (Or.inl ⟨by rfl, ?_⟩) hHeld ?_
      · intro W9 hSW
        (try dsimp only at hSW)
        go_simp
      try simp only [Act.put, List.setIfInBounds_toArray, List.set_cons_zero, List.set_cons_succ]
      have HC4 : Hid (∀ i, i < 8 → ∃ x, W4.cell? ⟨hb, i, none⟩ = some x ∧ W4.frozen? ⟨hb, i, none⟩ = false) := Lib.hid fun i hi => by
        obtain ⟨x, h1, h2⟩ := HCELLS.out i hi
        have hc : ¬ hb = cb := by have := HS1.out; omega
        have hl1 : hb < w1.heap.size := by have := HCB.out; have := HS1.out; omega
        have hl2 : hb < w2.heap.size := Nat.lt_of_lt_of_le hl1 HK2.out.size
        have hl3 : hb < wr.heap.size := Nat.lt_of_lt_of_le hl2 HK.out.size
        refine ⟨x, (HW4.out.1.cell (p := ⟨hb, i, none⟩) hl3).trans (HK.out.cell_of (HK2.out.cell_of h1 id) hc), ?_⟩
        rw [HW4.out.1.frozen (p := ⟨hb, i, none⟩) hl3, HK.out.frozen (p := ⟨hb, i, none⟩) hl2 hc, HK2.out.frozen (p := ⟨hb, i, none⟩) hl1 id]
        exact h2
      obtain ⟨y0, d0, z0⟩ := HC4.out 0 (by decide)
      obtain ⟨y1, d1, z1⟩ := HC4.out 1 (by decide)
      obtain ⟨y2, d2, z2⟩ := HC4.out 2 (by decide)
      obtain ⟨y3, d3, z3⟩ := HC4.out 3 (by decide)
      obtain ⟨y4, d4, z4⟩ := HC4.out 4 (by decide)
      obtain ⟨y5, d5, z5⟩ := HC4.out 5 (by decide)
      obtain ⟨y6, d6, z6⟩ := HC4.out 6 (by decide)
      obtain ⟨y7, d7, z7⟩ := HC4.out 7 (by decide)
      have hk8 := set8 (V := W4) (r := hb) (.int .i64 s.fin) (.int .i64 s.now) (.int .i64 (s.pipes.chs.length : Nat)) (.slice x1 s.tasks.length k1) (.slice (some ⟨cb, 0, none⟩) m m) (.slice x2 s.globals.length k2) (.slice ao3 s.pipes.chs.length cap3) (.slice x4 s.out.length k4)
      have hS9 : (fun W : World => W.cell? ⟨rb, 1, none⟩ = some (.int .i64 s.fin) ∧ W.cell? ⟨rb, 2, none⟩ = some vT ∧ W.cell? ⟨rb, 10, none⟩ = some vG ∧ W.cell? ⟨rb, 11, none⟩ = some vO) ((((((((W4.setCell ⟨hb, 0, none⟩ (.int .i64 s.fin)).setCell ⟨hb, 1, none⟩ (.int .i64 s.now)).setCell ⟨hb, 2, none⟩ (.int .i64 (s.pipes.chs.length : Nat))).setCell ⟨hb, 3, none⟩ (.slice x1 s.tasks.length k1)).setCell ⟨hb, 4, none⟩ (.slice (some ⟨cb, 0, none⟩) m m)).setCell ⟨hb, 5, none⟩ (.slice x2 s.globals.length k2)).setCell ⟨hb, 6, none⟩ (.slice ao3 s.pipes.chs.length cap3)).setCell ⟨hb, 7, none⟩ (.slice x4 s.out.length k4)) := ⟨hk8.cell_of hHeld.1 HNE.out, hk8.cell_of hHeld.2.1 HNE.out, hk8.cell_of hHeld.2.2.1 HNE.out, hk8.cell_of hHeld.2.2.2 HNE.out⟩
      dsimp only at hS9
      obtain ⟨e0, e1, e2, e3, e4, e5, e6, e7⟩ := get8 (V := W4) (r := hb) (fun i hi => by obtain ⟨x, h1, _⟩ := HC4.out i hi; exact ⟨x, h1⟩) (.int .i64 s.fin) (.int .i64 s.now) (.int .i64 (s.pipes.chs.length : Nat)) (.slice x1 s.tasks.length k1) (.slice (some ⟨cb, 0, none⟩) m m) (.slice x2 s.globals.length k2) (.slice ao3 s.pipes.chs.length cap3) (.slice x4 s.out.length k4)
      have HK8 := Lib.hid hk8
      have HE := Lib.hid (And.intro e0 (And.intro e1 (And.intro e2 (And.intro e3 (And.intro e4 (And.intro e5 (And.intro e6 e7)))))))
      clear hk8 e0 e1 e2 e3 e4 e5 e6 e7
      refine wpAnyH_ready (rs := [33]) (by kernel_rfl) (by simp) ?_
      refine AllReadyH.cons (o := { dst := none, op := _, type := _, pos := _, after := _, guard := _ }) rfl (fun K hK => ?_) AllReadyH.nil
      go_simp
      refine hK.out _ _ hS9 (fun hHeld => ?_)
      clear hK K
      refine wpAnyH_done (by kernel_rfl) ?_ _
      clear d0 d1 d2 d3 d4 d5 d6 d7 z0 z1 z2 z3 z4 z5 z6 z7 hS9
      obtain ⟨e0, e1, e2, e3, e4, e5, e6, e7⟩ := HE.out
      generalize (((((((W4.setCell ⟨hb, 0, none⟩ (.int .i64 s.fin)).setCell ⟨hb, 1, none⟩ (.int .i64 s.now)).setCell ⟨hb, 2, none⟩ (.int .i64 (s.pipes.chs.length : Nat))).setCell ⟨hb, 3, none⟩ (.slice x1 s.tasks.length k1)).setCell ⟨hb, 4, none⟩ (.slice (some ⟨cb, 0, none⟩) m m)).setCell ⟨hb, 5, none⟩ (.slice x2 s.globals.length k2)).setCell ⟨hb, 6, none⟩ (.slice ao3 s.pipes.chs.length cap3)).setCell ⟨hb, 7, none⟩ (.slice x4 s.out.length k4) = W5 at *
      go_wp2_with fail
      have h1b : hb < wr.drew.heap.size := by have := HS1.out; have h1 := HCB.out; have h2 := HK2.out.size; have h3 := HK.out.size; show hb < wr.heap.size; omega
      have h2b : hb < W1.heap.size := Nat.lt_of_lt_of_le h1b HBW1.out.size
      have h3b : hb < W2.heap.size := Nat.lt_of_lt_of_le h2b HBW2.out.size
      have h4b : hb < W3.heap.size := Nat.lt_of_lt_of_le h3b HBW3.out.size
      have hcbb : hb < cb := by have := HS1.out; omega
      refine bodyPost_ret (v := .agg #[.int .i64 s.fin, .int .i64 s.now, .int .i64 (s.pipes.chs.length : Nat), .slice x1 s.tasks.length k1, .slice (some ⟨cb, 0, none⟩) m m, .slice x2 s.globals.length k2, .slice ao3 s.pipes.chs.length cap3, .slice x4 s.out.length k4]) (by simp [results, Tryz.results20, go_sem, e0, e1, e2, e3, e4, e5, e6, e7]) rfl ?_
      refine ⟨_, rfl, ⟨_, _, _, _, _, rfl, ?_, ?_, ?_, ⟨ao3, cap3, rfl, L, HL3.out, ?_⟩, ?_⟩, ?_⟩
      all_goals rw [HHB.out]
      · exact own_mono (((((HU1.out.below HBW2.out).below HBW3.out).below HBW4.out)).keepsS HK8.out h1b) (Nat.le_of_lt h1b)
      · have h9 := own_mono ((HOW.out.below HW4.out.1).keepsS HK8.out hcbb) (Nat.le_of_lt hcbb)
        rw [HN.out] at h9
        exact h9
      · exact own_mono ((((HU2.out.below HBW3.out).below HBW4.out)).keepsS HK8.out h2b) (Nat.le_of_lt h2b)
      · exact ((HU3.out.new HBW4.out).keepsS HK8.out h3b).lower (Nat.le_of_lt h3b)
      · exact own_mono (HU4.out.keepsS HK8.out h4b) (Nat.le_of_lt h4b)
      · have hw12 : hb ≤ w1.heap.size := by have := HS1.out; have := HCB.out; omega
        have hw22 : hb ≤ w2.heap.size := Nat.le_trans hw12 HK2.out.size
        exact (((HB1.out.trans (HK2.out.below hw12 fun _ _ e => e.elim)).trans (HK.out.below hw22 fun b _ e => by omega)).trans (HW4.out.1.mono (Nat.le_of_lt h1b))).trans (HK8.out.below (by have := HBW4.out.size; omega) fun b _ e => by omega)
end
end Go.Proofs.YtnjdmijcoadidaaGreatDoor

namespace Go.Proofs.YtnjdmijcoadidaaGreatDoor
open Go.RowKit Go.Maps Pp

section
variable {α : Type} {w0 : World} {C : DoerW α w0} {w w' w1 w2 : World} {τ τ' : Nat → RR} {rb N N' N1 N2 : Nat} {s s' s1 s2 : Rm.S α} {V : RK → Value} {l : List Hp.E}
/-- A room ahead of its first task. -/
def bareS (g : Nat) (d : α) : Rm.S α := { fin := 0, tasks := [], live := [], now := 0, clock := [], pipes := Pp.zero, globals := List.replicate g 0, out := [], events := [], d := d }
theorem bare_start (D : Rm.Doer α) (g : Nat) (d : α) : Rm.begins D (bareS g d) 0 [] = Rm.start D g d := rfl
/-- The block of a room that was just made. -/
def roomCells (C : DoerW α w0) (gv : Value) : Array Value := #[.iface C.dt C.dp, .int .i64 0, .slice none 0 0, .slice none 0 0, .int .i64 0, .slice none 0 0, .map none, .nilFunc, .slice none 0 0, .map none, gv, .slice none 0 0, .slice none 0 0]
def rowV (gv : Value) : RK → Value
  | .globals => gv | _ => .slice none 0 0
theorem room_zero {g : Nat} {gv : Value} {F : Nat → Prop} {d : α} (t : TypeId) (hbel : Below w0.heap.size w0 w) (hd : C.At w F d) (hF : ∀ b, F b → w0.heap.size ≤ b) (ho : OwnI w w0.heap.size gv (List.replicate g 0)) (hg : ∀ b, gv.ownBlock = some b → ¬ F b) :
    ∃ τ, RoomT w0 C (w.alloc (.cells (roomCells C gv) t)) τ w.heap.size 0 (bareS g d) ∧ (∀ b, τ b ≠ .free → F b ∨ gv.ownBlock = some b ∨ b = w.heap.size) ∧ ∀ b, F b → τ b = .doer := by
  have hk : Keeps (fun _ => False) w (w.alloc (.cells (roomCells C gv) t)) := (Keeps.refl (fun _ => False) w).alloc _
  have hc : ∀ j u, (roomCells C gv)[j]? = some u → (w.alloc (.cells (roomCells C gv) t)).cell? ⟨w.heap.size, j, none⟩ = some u := fun j u hu => by
    rw [World.cell?_alloc_at _ _ _ _ rfl]; exact hu
  have hz : ∀ j, (w.alloc (.cells (roomCells C gv) t)).frozen? ⟨w.heap.size, j, none⟩ = false := fun j => by rw [World.frozen?_alloc_at _ _ _ _ rfl]
  have hsz : (w.alloc (.cells (roomCells C gv) t)).heap.size = w.heap.size + 1 := by simp
  have hlt : ∀ b, F b → b < w.heap.size := C.lt hd
  have hgl : ∀ b, gv.ownBlock = some b → w0.heap.size ≤ b ∧ b < w.heap.size := fun b hb => World.ownsRow.lt ho b hb
  obtain ⟨τ, hτ⟩ : ∃ τ : Nat → RR, τ = fun b => @ite _ (b = w.heap.size) (Classical.propDecidable _) .room (@ite _ (gv.ownBlock = some b) (Classical.propDecidable _) (.row .globals) (@ite _ (F b) (Classical.propDecidable _) .doer .free)) := ⟨_, rfl⟩
  have t0 : τ w.heap.size = .room := by rw [hτ]; exact if_pos rfl
  have tg : ∀ b, gv.ownBlock = some b → τ b = .row .globals := fun b hb => by
    rw [hτ]
    dsimp only
    rw [if_neg (by have := (hgl b hb).2; omega), if_pos hb]
  have tF : ∀ b, F b → τ b = .doer := fun b hb => by
    rw [hτ]
    dsimp only
    rw [if_neg (by have := hlt b hb; omega), if_neg (fun e => hg b e hb), if_pos hb]
  have tc : ∀ b, (b = w.heap.size ∧ τ b = .room) ∨ (gv.ownBlock = some b ∧ τ b = .row .globals) ∨ (F b ∧ τ b = .doer) ∨ τ b = .free := fun b => by
    rcases Classical.em (b = w.heap.size) with e | e
    · exact Or.inl ⟨e, by rw [e]; exact t0⟩
    rcases Classical.em (gv.ownBlock = some b) with e2 | e2
    · exact Or.inr (Or.inl ⟨e2, tg b e2⟩)
    rcases Classical.em (F b) with e3 | e3
    · exact Or.inr (Or.inr (Or.inl ⟨e3, tF b e3⟩))
    · refine Or.inr (Or.inr (Or.inr ?_))
      rw [hτ]
      dsimp only
      rw [if_neg e, if_neg e2, if_neg e3]
  clear hτ
  have hrole : ∀ b, (τ b).role = .free ∨ (b = w.heap.size ∧ (τ b).role = .pipes) := fun b => by
    rcases tc b with ⟨e, h⟩ | ⟨_, h⟩ | ⟨_, h⟩ | h
    · exact Or.inr ⟨e, by rw [h]; rfl⟩
    all_goals exact Or.inl (by rw [h]; rfl)
  refine ⟨τ, ⟨rowV gv, [], ⟨hc 0 _ rfl, hc 1 _ rfl, fun k => ?_, fun k => ?_, fun k b hb => ?_, hz, ?_, List.Perm.refl _, ?_, ?_, t0, fun b hb => ?_, fun b hb => ?_, fun b hb => ?_, ?_⟩⟩, fun b hb => ?_, tF⟩
  · cases k <;> exact hc _ _ rfl
  · cases k
    case globals =>
      have h9 := own_mono (hk.row ho fun _ _ => id) (Nat.zero_le w0.heap.size)
      exact h9
    all_goals exact World.ownsRow_nil _ _ _ _
  · cases k
    case globals => exact tg b hb
    all_goals cases hb
  · refine ⟨hc 4 _ rfl, hz, fun _ _ => rfl, Or.inr rfl, fun b hb => ?_, fun i hi => absurd hi (Nat.not_lt_zero i), Or.inl ⟨rfl, hc 5 _ rfl, hc 6 _ rfl, hc 7 _ rfl⟩⟩
    rw [hsz]
    rcases hb with e | e
    · rcases tc b with ⟨e2, _⟩ | ⟨e2, _⟩ | ⟨e2, _⟩ | h
      · omega
      · have := (hgl b e2).2; omega
      · have := hlt b e2; omega
      · rw [h] at e; cases e
    · omega
  · refine ⟨Ok.zero, .slice none 0 0, [], none, .map [], hc 8 _ rfl, hc 9 _ rfl, hz, World.ownsRow_nil _ _ _ _, rfl, Nat.zero_le _, fun k cb c hcb => (by simp at hcb), fun k c hc => (by simp [bareS, Pp.zero] at hc), fun _ => rfl, fun b hb => (by cases hb), fun t => rfl, fun t l h => (by cases h), (by show (τ w.heap.size).role = _; rw [t0]; rfl), fun b hb => (by cases hb), fun b hb => ?_, fun _ _ _ => rfl⟩
    rcases hrole b with e | ⟨e, _⟩
    · exact absurd e hb
    · rw [hsz]; omega
  · refine C.mono (C.keeps hd hk fun _ _ => id) tF fun b hb => ?_
    rw [hsz]
    rcases tc b with ⟨e2, h⟩ | ⟨e2, h⟩ | ⟨e2, _⟩ | h
    · omega
    · have := (hgl b e2).2; omega
    · have := hlt b e2; omega
    · rw [h] at hb; cases hb
  · rcases tc b with ⟨e2, h⟩ | ⟨e2, h⟩ | ⟨e2, h⟩ | h
    · exact e2
    all_goals rw [h] at hb; cases hb
  · rw [hsz]
    rcases tc b with ⟨e2, h⟩ | ⟨e2, h⟩ | ⟨e2, h⟩ | h
    · omega
    · have := (hgl b e2).2; omega
    · have := hlt b e2; omega
    · exact absurd h hb
  · have h0 := hbel.size
    rcases tc b with ⟨e2, h⟩ | ⟨e2, h⟩ | ⟨e2, h⟩ | h
    · omega
    · exact (hgl b e2).1
    · exact hF b e2
    · exact absurd h ‹_›
  · exact hbel.alloc hbel.size _
  · rcases tc b with ⟨e2, h⟩ | ⟨e2, h⟩ | ⟨e2, h⟩ | h
    · exact Or.inr (Or.inr e2)
    · exact Or.inr (Or.inl e2)
    · exact Or.inl e2
    · exact absurd h hb
end
end Go.Proofs.YtnjdmijcoadidaaGreatDoor

namespace Go.Proofs.YtnjdmijcoadidaaGreatDoor
open Go.RowKit Go.Maps Pp

section
variable {α : Type} {w0 : World} {C : DoerW α w0} {w w' w1 w2 : World} {τ τ' : Nat → RR} {rb N N' N1 N2 : Nat} {s s' s1 s2 : Rm.S α} {V : RK → Value} {l : List Hp.E}
theorem doer_there (dt : TypeId) (dp : Value) (w : World) : (binOp BinOp.eql 90 (.iface dt dp) .nilIface).run Tryz.prog w = .ok (.bool false) w := by kernel_rfl
theorem own_is {g n c b : Nat} (h : (Value.slice (some ⟨g, 0, none⟩) n c).ownBlock = some b) : g = b := by injection h
set_option maxRecDepth 100000 in
set_option maxHeartbeats 6400000 in
theorem new_any {F : Nat → Prop} {d : α} (hbel : Below w0.heap.size w0 w) (hd : C.At w F d) (hF : ∀ b, F b → w0.heap.size ≤ b) (g : Nat) (hg : g ≤ 8) (hn : C.num d ≤ 100000) :
    Calls Tryz.prog 12 #[.iface C.dt C.dp, .int .i64 g] w fun e w' => ∃ rb τ, e = .returned (.tuple #[.pointer (some ⟨rb, 0, none⟩), .nilIface]) ∧ RoomT w0 C w' τ rb 0 (Rm.start C.D g d) ∧ w.heap.size ≤ rb ∧ (∀ b, b < w.heap.size → ¬ F b → τ b = .free) ∧ Keeps F w w' := by
  have hmk := make_intR g (by omega) w
  have hmo := made_own w g (by omega)
  obtain ⟨w1, hw1⟩ : ∃ w1, w1 = w.alloc (.cells (madeCells #[.int .i64 0] g) 3) := ⟨_, rfl⟩
  obtain ⟨gv, hgv⟩ : ∃ gv : Value, gv = .slice (some ⟨w.heap.size, 0, none⟩) g g := ⟨_, rfl⟩
  have hk1 : Keeps (fun _ => False) w w1 := by rw [hw1]; exact (Keeps.refl (fun _ => False) w).alloc _
  rw [← hw1] at hmo
  have hs0 := hbel.size
  have hlt := C.lt hd
  obtain ⟨τ, hR, hτ1, hτ2⟩ := room_zero (g := g) (gv := gv) 103 (hbel.trans (hk1.below hs0 fun _ _ e => e.elim)) (C.keeps hd hk1 fun _ _ => id) hF (own_mono (by rw [hgv]; exact hmo) hs0) (fun b hb hF => by rw [hgv] at hb; have h1 := own_is hb; have := hlt _ hF; omega)
  have hk2 : Keeps (fun _ => False) w1 (w1.alloc (.cells (roomCells C gv) 103)) := (Keeps.refl (fun _ => False) w1).alloc _
  have HC := Lib.hid (begin_any hR 0 (by omega) (by omega) (va := .slice none 0 0) (args := []) (intsAt_nil _) (fun h0 => absurd h0 (by simp)) hn (by show 0 ≤ _; omega) (by show 0 ≤ _; omega))
  have hs1 : w1.heap.size = w.heap.size + 1 := by rw [hw1]; simp
  have HT1 : Hid (∀ b, b < w.heap.size → ¬ F b → τ b = .free) := Lib.hid fun b hb hF => Classical.byContradiction fun e => by
    rcases hτ1 b e with h | h | h
    · exact hF h
    · rw [hgv] at h; have := own_is h; omega
    · omega
  have HT2 : Hid (∀ b, b < w.heap.size → τ b ≠ .free → F b) := Lib.hid fun b hb e => by
    rcases hτ1 b e with h | h | h
    · exact h
    · rw [hgv] at h; have := own_is h; omega
    · omega
  have HK2 := Lib.hid (hk1.trans hk2)
  have HS1 := Lib.hid hs1
  have h0 := doer_there C.dt C.dp w
  rw [hgv] at HC HK2
  unfold roomCells at HC HK2
  generalize hdt : C.dt = dt at *
  generalize hdp : C.dp = dp at *
  rw [hs1] at HC
  clear hbel hd hF hn hmo hgv hk1 hs0 hlt hR hτ1 hτ2 hk2 hs1 hdt hdp
  subst hw1
  go_enter Tryz.func12, Tryz.ntmps12
  go_upto_region 6 with fail
  go_wp2_with fail
  refine HC.out.mono ?_
  rintro e w3 ⟨rfl, hg⟩
  have HGO := Lib.hid hg
  clear hg
  go_wp2_with fail
  go_ret2
  obtain ⟨τ3, hT, hf⟩ := HGO.out.ex
  have hw2 : w.heap.size < ((w.alloc (.cells (madeCells #[.int .i64 0] g) 3)).alloc (.cells #[.iface dt dp, .int .i64 0, .slice none 0 0, .slice none 0 0, .int .i64 0, .slice none 0 0, .map none, .nilFunc, .slice none 0 0, .map none, .slice (some ⟨w.heap.size, 0, none⟩) g g, .slice none 0 0, .slice none 0 0] 103)).heap.size := by simp; omega
  exact ⟨w.heap.size + 1, τ3, rfl, hT, Nat.le_succ _, fun b hb hF => hf b (Nat.lt_trans hb hw2) (HT1.out b hb hF), (HK2.out.mono fun _ _ e => e.elim).trans' HGO.out.keep fun b hb e => HT2.out b hb e⟩
end
end Go.Proofs.YtnjdmijcoadidaaGreatDoor

namespace Go.Proofs.YtnjdmijcoadidaaGreatDoor
open Go.RowKit

theorem pick_val (a : Int) (n : Nat) (h0 : 0 < n) (hn : n ≤ 9223372036854775807) : wrap64 ((IntKind.u64.wrap a).tmod n) = ((IntKind.u64.wrap a % (n : Int)).toNat : Int) ∧ (IntKind.u64.wrap a % (n : Int)).toNat < n := by
  have hu : 0 ≤ IntKind.u64.wrap a := by rw [IntKind.wrap_u64]; omega
  have e1 : (IntKind.u64.wrap a).tmod n = IntKind.u64.wrap a % n := Int.tmod_eq_emod_of_nonneg hu
  have l0 : 0 ≤ IntKind.u64.wrap a % (n : Int) := Int.emod_nonneg _ (by omega)
  have l1 : IntKind.u64.wrap a % (n : Int) < n := Int.emod_lt_of_pos _ (by omega)
  rw [e1]
  refine ⟨?_, by omega⟩
  rw [IntWalk.wrap64_in _ ⟨by omega, by omega⟩]; omega

set_option maxHeartbeats 400000 in
theorem pick_any (a : Int) (n : Nat) (w : World) (h0 : 0 < n) (hn : n ≤ 9223372036854775807) :
    Calls Tryz.prog 29 #[.int .i64 a, .int .i64 n] w fun e w' => ∃ r : Nat, r < n ∧ e = .returned (.int .i64 r) ∧ w = w' := by
  go_enter Tryz.func29, Tryz.ntmps29
  go_wp2_with fail
  go_ret
  obtain ⟨e, hl⟩ := pick_val a n h0 hn
  exact ⟨_, hl, by rw [← e]; rfl, rfl⟩
end Go.Proofs.YtnjdmijcoadidaaGreatDoor

namespace Go.Proofs.YtnjdmijcoadidaaGreatDoor
open Go.RowKit Go.Maps Pp

/-- A player: the script's number of each task, how far it is, whether it paused; and, for bounds, how much was done at all. -/
structure Py where
  fns : List Nat
  ats : List Nat
  paused : List Bool
  cnt : Nat
def pickN (a : Int) (n : Nat) : Nat := (IntKind.u64.wrap a % (n : Int)).toNat
section
variable (Sc : List (List Rm.Ask))
def pyBegins (d : Py) (fn : Int) (_ : List Int) : Py := ⟨d.fns ++ [pickN fn Sc.length], d.ats ++ [0], d.paused ++ [false], d.cnt + 1⟩
def pyAt (d : Py) (t : Nat) : Nat := d.ats.getD t 0 + (if d.paused.getD t false then 1 else 0)
def pyList (d : Py) (t : Nat) : List Rm.Ask := Sc.getD (d.fns.getD t 0) []
def pyEnd : Rm.Ask := ⟨1, 0, [], []⟩
def pyNext (d : Py) (t : Nat) : Py × Rm.Ask :=
  (⟨d.fns, d.ats.set t (pyAt d t), d.paused.set t (match (pyList Sc d t)[pyAt d t]? with | some a => decide (a.what = 2) | none => false), d.cnt + 1⟩, ((pyList Sc d t)[pyAt d t]?).getD pyEnd)
def pyGive (d : Py) (t : Nat) (_ _ : Int) : Py := ⟨d.fns, d.ats.set t (d.ats.getD t 0 + 1), d.paused, d.cnt + 1⟩
def pyDoer : Rm.Doer Py := ⟨pyBegins Sc, pyNext Sc, pyGive⟩
end
def cellsN (l : List Nat) : List Value := l.map fun (n : Nat) => .int .i64 (n : Int)
/-- A player in memory. -/
structure PyAt (Sc : List (List Rm.Ask)) (pb : Nat) (sv : Value) (w : World) (F : Nat → Prop) (d : Py) : Prop where
  c0 : w.cell? ⟨pb, 0, none⟩ = some sv
  ex : ∃ vf va vp, w.cell? ⟨pb, 1, none⟩ = some vf ∧ w.cell? ⟨pb, 2, none⟩ = some va ∧ w.cell? ⟨pb, 3, none⟩ = some vp ∧ w.ownsRow 0 3 1 vf d.fns.length (cellsN d.fns) ∧ w.ownsRow 0 3 1 va d.ats.length (cellsN d.ats) ∧ w.ownsRow 0 4 1 vp d.paused.length (d.paused.map .bool) ∧
    (∀ b, vf.ownBlock = some b → F b ∧ b ≠ pb) ∧ (∀ b, va.ownBlock = some b → F b ∧ b ≠ pb) ∧ (∀ b, vp.ownBlock = some b → F b ∧ b ≠ pb) ∧ ∀ b, vf.ownBlock = some b → ¬ va.ownBlock = some b
  z : ∀ j, w.frozen? ⟨pb, j, none⟩ = false
  fp : F pb
  fl : ∀ b, F b → b < w.heap.size
  la : d.ats.length = d.fns.length
  lp : d.paused.length = d.fns.length
  fn : ∀ f ∈ d.fns, f < Sc.length
  le : ∀ a ∈ d.ats, a ≤ d.cnt
section
variable {Sc : List (List Rm.Ask)} {pb : Nat} {sv : Value} {w w' : World} {F G S : Nat → Prop} {d : Py}
theorem PyAt.lt (h : PyAt Sc pb sv w F d) : pb < w.heap.size := block_lt_of_cell h.c0
theorem PyAt.keeps (h : PyAt Sc pb sv w F d) (hk : Keeps S w w') (hS : ∀ b, F b → ¬ S b) : PyAt Sc pb sv w' F d := by
  obtain ⟨vf, va, vp, c1, c2, c3, o1, o2, o3, f1, f2, f3, hd⟩ := h.ex
  have hp := hS _ h.fp
  refine ⟨hk.cell_of h.c0 hp, ⟨vf, va, vp, hk.cell_of c1 hp, hk.cell_of c2 hp, hk.cell_of c3 hp, hk.row o1 fun b hb => hS b (f1 b hb).1, hk.row o2 fun b hb => hS b (f2 b hb).1, hk.row o3 fun b hb => hS b (f3 b hb).1, f1, f2, f3, hd⟩, fun j => ?_, h.fp, fun b hb => Nat.lt_of_lt_of_le (h.fl b hb) hk.size, h.la, h.lp, h.fn, h.le⟩
  rw [hk.frozen (p := ⟨pb, j, none⟩) h.lt hp]
  exact h.z j
theorem PyAt.mono (h : PyAt Sc pb sv w F d) (hF : ∀ b, F b → G b) (hG : ∀ b, G b → b < w.heap.size) : PyAt Sc pb sv w G d := by
  obtain ⟨vf, va, vp, c1, c2, c3, o1, o2, o3, f1, f2, f3, hd⟩ := h.ex
  exact ⟨h.c0, ⟨vf, va, vp, c1, c2, c3, o1, o2, o3, fun b hb => ⟨hF b (f1 b hb).1, (f1 b hb).2⟩, fun b hb => ⟨hF b (f2 b hb).1, (f2 b hb).2⟩, fun b hb => ⟨hF b (f3 b hb).1, (f3 b hb).2⟩, hd⟩, h.z, hF _ h.fp, hG, h.la, h.lp, h.fn, h.le⟩
theorem own_apart0 {w : World} {B B' : Nat} {t t' : TypeId} {n n' : Nat} {v v' : Value} {m m' : Nat} {cs cs' : List Value} (h : w.ownsRow B t n v m cs) (h' : w.ownsRow B' t' n' v' m' cs') (ht : t ≠ t') : ∀ b, v.ownBlock = some b → ¬ v'.ownBlock = some b := own_apart h h' ht
theorem cellsN_at {l : List Nat} {i : Nat} (h : i < l.length) : (cellsN l)[i]? = some (.int .i64 (l.getD i 0 : Nat)) := by
  unfold cellsN
  rw [List.getElem?_map, List.getD_eq_getElem?_getD, List.getElem?_eq_getElem h]; rfl
theorem cellsN_set (l : List Nat) (i x : Nat) : (cellsN l).set i (.int .i64 (x : Int)) = cellsN (l.set i x) := by
  unfold cellsN
  rw [List.map_set]
/-- One is further on. -/
theorem PyAt.setAt (h : PyAt Sc pb sv w F d) {vf va vp : Value} {g cap : Nat} (c1 : w.cell? ⟨pb, 1, none⟩ = some vf) (c2 : w.cell? ⟨pb, 2, none⟩ = some va) (c3 : w.cell? ⟨pb, 3, none⟩ = some vp) (hv : va = .slice (some ⟨g, 0, none⟩) d.ats.length cap) (t x n : Nat) (hx : x ≤ n) (hn : d.cnt ≤ n) :
    PyAt Sc pb sv (w.setCell ⟨g, t, none⟩ (.int .i64 (x : Int))) F ⟨d.fns, d.ats.set t x, d.paused, n⟩ ∧ Keeps F w (w.setCell ⟨g, t, none⟩ (.int .i64 (x : Int))) := by
  obtain ⟨vf', va', vp', c1', c2', c3', o1, o2, o3, f1, f2, f3, hd⟩ := h.ex
  obtain rfl : vf = vf' := by rw [c1] at c1'; injection c1'
  obtain rfl : va = va' := by rw [c2] at c2'; injection c2'
  obtain rfl : vp = vp' := by rw [c3] at c3'; injection c3'
  have hk : Keeps (fun b => b = g) w (w.setCell ⟨g, t, none⟩ (.int .i64 (x : Int))) := (Keeps.refl (fun b => b = g) w).setCell (p := ⟨g, t, none⟩) (Or.inl rfl) _
  have hg := f2 g (by rw [hv]; rfl)
  have hne : ¬ pb = g := fun e => hg.2 e.symm
  refine ⟨⟨hk.cell_of h.c0 hne, ⟨vf, va, vp, hk.cell_of c1 hne, hk.cell_of c2 hne, hk.cell_of c3 hne, hk.row o1 fun b hb e => hd b hb (by rw [hv, show b = g from e]; rfl), ?_, hk.row o3 fun b hb e => own_apart o3 o2 (by decide) b hb (by rw [hv, show b = g from e]; rfl), f1, f2, f3, hd⟩, fun j => ?_, h.fp, fun b hb => by rw [World.size_setCell]; exact h.fl b hb, ?_, h.lp, h.fn, fun a ha => ?_⟩, hk.mono fun b _ e => by rw [e]; exact hg.1⟩
  · show (w.setCell ⟨g, t, none⟩ (.int .i64 (x : Int))).ownsRow 0 3 1 va (d.ats.set t x).length (cellsN (d.ats.set t x))
    rw [List.length_set, ← cellsN_set]
    rw [hv] at o2 ⊢
    exact own_setG o2 _
  · rw [World.frozen?_setCell]; exact h.z j
  · show (d.ats.set t x).length = _
    rw [List.length_set]; exact h.la
  · rcases List.mem_or_eq_of_mem_set ha with h1 | h1
    · exact Nat.le_trans (h.le a h1) hn
    · rw [h1]; exact hx
set_option maxRecDepth 100000 in
set_option maxHeartbeats 3200000 in
theorem pyGive_any (h : PyAt Sc pb sv w F d) (t : Nat) (ht : t < d.fns.length) (hl : d.fns.length ≤ 200000) (hb : d.cnt ≤ 1000000000) (c n : Int) :
    Calls Tryz.prog 215 #[.pointer (some ⟨pb, 0, none⟩), .int .i64 t, .agg #[.int .i64 c, .int .i64 n]] w fun e w' => e = .returned (.tuple #[]) ∧ ∃ F', PyAt Sc pb sv w' F' (pyGive d t c n) ∧ (∀ b, F' b → F b ∨ w.heap.size ≤ b) ∧ Keeps F w w' := by
  have hk1 : Keeps (fun _ => False) w (w.alloc (.cells #[.int .i64 c, .int .i64 n] 124)) := (Keeps.refl (fun _ => False) w).alloc _
  have h1 := h.keeps hk1 fun _ _ => id
  obtain ⟨vf, va, vp, c1, c2, c3, o1, o2, o3, f1, f2, f3, hd⟩ := id h1.ex
  have hat : t < d.ats.length := by rw [h.la]; exact ht
  obtain ⟨g, cap, rfl, hc1, hc2, hg, hz, hcell⟩ := row_open o2 (show 0 < d.ats.length by omega)
  have ct := hcell t _ (cellsN_at hat)
  have zt := hz t
  have hle := h.le (d.ats.getD t 0) (by rw [List.getD_eq_getElem?_getD, List.getElem?_eq_getElem hat]; exact List.getElem_mem hat)
  obtain ⟨x, hx⟩ : ∃ x, x = d.ats.getD t 0 := ⟨_, rfl⟩
  rw [← hx] at ct hle
  have HP := Lib.hid (h1.setAt c1 c2 c3 rfl t (x + 1) (d.cnt + 1) (by omega) (by omega))
  have hgv : pyGive d t c n = ⟨d.fns, d.ats.set t (x + 1), d.paused, d.cnt + 1⟩ := by unfold pyGive; rw [hx]
  rw [hgv]
  have hwr : IntKind.i64.wrap ((x : Int) + 1) = ((x + 1 : Nat) : Int) := by rw [IntWalk.i64_in _ (by omega)]; omega
  have htl : (0 : Int) ≤ (t : Int) ∧ (t : Int) < (d.ats.length : Int) := by omega
  have hla : d.ats.length ≤ 200000 := by rw [h.la]; exact hl
  have HK1 := Lib.hid hk1
  unfold maxLen at hc2
  clear h hk1 h1 o1 o2 o3 f1 f2 f3 hd hz hcell hg hle hx hgv c1 c3 hc1
  go_enter Tryz.func215, Tryz.ntmps215
  go_wp2_with fail
  go_end0
  exact ⟨rfl, F, HP.out.1, fun b hb => Or.inl hb, (HK1.out.mono fun _ _ e => e.elim).trans HP.out.2⟩
end
end Go.Proofs.YtnjdmijcoadidaaGreatDoor

namespace Go.Proofs.YtnjdmijcoadidaaGreatDoor
open Go

section
variable {P : Program} {ops : Array Oper} {Q : Exit → Act → World → Prop} {md : Region.Mode} {S : World → Prop} {T : List Nat}
/-- Whichever comes up keeps S, if it is not late. -/
def anyLate (P : Program) (md : Region.Mode) (ops : Array Oper) (Q : Exit → Act → World → Prop) (S : World → Prop) (T : List Nat) : Nat → Array Bool → Act → World → Prop
  | 0, li, a, w => Region.ready md ops li = [] ∧ Q .normal a w
  | n + 1, li, a, w => (Region.ready md ops li = [] → Q .normal a w) ∧ ∀ i ∈ Region.ready md ops li, wpOp P ops Q i (fun a' w' => (i ∉ T → S w → S w') ∧ anyLate P md ops Q S T n (li.setIfInBounds i true) a' w') a w
theorem any_of_late : ∀ (n : Nat) (li : Array Bool) (a : Act) (w : World), anyLate P md ops Q S T n li a w → wpAny P md ops Q n li a w
  | 0, _, _, _, h => h
  | n + 1, _, _, _, h => ⟨h.1, fun i hi => wpOp_mono (fun a' w' h' => any_of_late n _ a' w' h'.2) (h.2 i hi)⟩
/-- Each late one waits for number i. -/
def waitsFor (md : Region.Mode) (ops : Array Oper) (T : List Nat) (i : Nat) : Bool := T.all fun j => match ops[j]? with
  | some o => o.after.any fun e => Region.binds md e && (e.on == i)
  | none => true
theorem waits_spec {i j : Nat} {oj : Oper} (h : waitsFor md ops T i = true) (hj : j ∈ T) (ho : ops[j]? = some oj) : ∃ e ∈ oj.after, Region.binds md e = true ∧ e.on = i := by
  have h1 := (List.all_eq_true.1 h) j hj
  rw [ho] at h1
  obtain ⟨k, hk, h2⟩ := Array.any_eq_true.1 h1
  rw [Bool.and_eq_true, beq_iff_eq] at h2
  exact ⟨oj.after[k], Array.getElem_mem hk, h2.1, h2.2⟩
theorem late_first {R : World → Prop} {i : Nat} {oi : Oper} {v : Value} (hi : ops[i]? = some oi) (hsel : ∀ (j : Nat) (o : Oper) cs b, ops[j]? = some o → o.op ≠ .select cs b)
    (hQ : ∀ c a w, Q (.panic c) (a.put oi.dst v) w → Q (.panic c) a w) (hR : (∀ w, R w) ∨ (R = S ∧ waitsFor md ops T i = true)) :
    ∀ (n : Nat) (li : Array Bool) (a : Act) (w : World),
      (∀ j oj, ops[j]? = some oj → j ≠ i → li.getD j true = false → (∀ e ∈ oj.after, Region.binds md e = true → e.on ≠ i) → oi.apart ops oj = true) →
      i ∈ Region.ready md ops li → YieldsIf P ops R oi v a → R w → anyLate P md ops Q S T n (li.setIfInBounds i true) (a.put oi.dst v) w → anyLate P md ops Q S T (n + 1) li a w := by
  intro n
  induction n with
  | zero =>
    intro li a w _ hr hy hw H
    refine ⟨fun h => (by rw [h] at hr; cases hr), fun j hj => ?_⟩
    by_cases e : j = i
    · subst e
      exact hy.wpOp hi hw ⟨fun _ h => h, H⟩
    · have h1 := ready_mono hj e
      rw [H.1] at h1
      cases h1
  | succ n ih =>
    intro li a w hfree hr hy hw H
    refine ⟨fun h => (by rw [h] at hr; cases hr), fun j hj => ?_⟩
    by_cases e : j = i
    · subst e
      exact hy.wpOp hi hw ⟨fun _ h => h, H⟩
    have h1 := H.2 j (ready_mono hj e)
    obtain ⟨hun, oj, hoj, hall⟩ := mem_ready.1 hj
    have hiu := (mem_ready.1 hr).1
    have hno : ∀ x ∈ oj.after, Region.binds md x = true → x.on ≠ i := fun x hx hb he => by
      have h2 := hall x hx hb
      rw [he] at h2
      rcases Nat.lt_or_ge i li.size with h3 | h3
      · simp [h3] at hiu h2
        rw [hiu] at h2; cases h2
      · simp [Array.getElem?_eq_none h3] at h2
    have hnT : R = S ∧ waitsFor md ops T i = true → j ∉ T := fun h hjT => by
      obtain ⟨x, hx, hb, he⟩ := waits_spec h.2 hjT hoj
      exact hno x hx hb he
    have h2 := wpOp_putIf hoj (hfree j oj hoj e hun hno) (fun cs b => hsel i oi cs b hi) (fun cs b => hsel j oj cs b hoj) hQ hy h1
    refine wpOp_mono (fun a' w' h3 => ⟨h3.2.1, ih (li.setIfInBounds j true) a' w' (fun k ok hk hki hku hkn => ?_) (ready_mono hr (Ne.symm e)) h3.1 ?_ ?_⟩) h2
    · refine hfree k ok hk hki ?_ hkn
      by_cases hjk : j = k
      · subst hjk; exact hun
      · rw [getD_set_ne true hjk] at hku; exact hku
    · rcases hR with hR | hR
      · exact hR w'
      · have h4 := h3.2.1 (hnT hR)
        rw [hR.1] at hw ⊢
        exact h4 hw
    · rw [Array.setIfInBounds_comm _ _ e]
      exact h3.2.2
/-- One that yields in every world of S, ahead of all late ones. -/
theorem late_take {i : Nat} {oi : Oper} {v : Value} {n : Nat} {li : Array Bool} {a : Act} {w : World} (hi : ops[i]? = some oi) (hs : Region.noSelect ops = true) (hf : Region.free md ops li i = true) (hr : (Region.ready md ops li).contains i = true) (hT : waitsFor md ops T i = true)
    (hQ : ∀ c a w, Q (.panic c) (a.put oi.dst v) w → Q (.panic c) a w) (hy : YieldsIf P ops S oi v a) (hw : S w) (h : anyLate P md ops Q S T n (li.setIfInBounds i true) (a.put oi.dst v) w) : anyLate P md ops Q S T (n + 1) li a w :=
  late_first hi (Region.noSelect_spec hs) hQ (Or.inr ⟨rfl, hT⟩) n li a w (Region.free_spec hi hf) (by simpa using hr) hy hw h
/-- One that yields in whatever world. -/
theorem late_take0 {i : Nat} {oi : Oper} {v : Value} {n : Nat} {li : Array Bool} {a : Act} {w : World} (hi : ops[i]? = some oi) (hs : Region.noSelect ops = true) (hf : Region.free md ops li i = true) (hr : (Region.ready md ops li).contains i = true)
    (hQ : ∀ c a w, Q (.panic c) (a.put oi.dst v) w → Q (.panic c) a w) (hy : YieldsIf P ops (fun _ => True) oi v a) (h : anyLate P md ops Q S T n (li.setIfInBounds i true) (a.put oi.dst v) w) : anyLate P md ops Q S T (n + 1) li a w :=
  late_first hi (Region.noSelect_spec hs) hQ (Or.inl fun _ => trivial) n li a w (Region.free_spec hi hf) (by simpa using hr) hy trivial h
def LateAll (P : Program) (md : Region.Mode) (ops : Array Oper) (Q : Exit → Act → World → Prop) (S : World → Prop) (T : List Nat) (n : Nat) (li : Array Bool) (a : Act) (w : World) (rs : List Nat) : Prop :=
  ∀ i ∈ rs, wpOp P ops Q i (fun a' w' => (i ∉ T → S w → S w') ∧ anyLate P md ops Q S T n (li.setIfInBounds i true) a' w') a w
theorem LateAll.nil {n : Nat} {li : Array Bool} {a : Act} {w : World} : LateAll P md ops Q S T n li a w [] := fun _ h => by cases h
theorem LateAll.cons {n : Nat} {li : Array Bool} {a : Act} {w : World} {i : Nat} {o : Oper} {rs : List Nat} (ho : ops[i]? = some o)
    (h : ∀ K : Act → World → Prop, Shut (∀ a' w', (i ∉ T → S w') → anyLate P md ops Q S T n (li.setIfInBounds i true) a' w' → K a' w') → if Region.wanted o (yielded ops a.tmps) = true then Oper.wp P o a w K Q else K (a.put o.dst undef) w)
    (hs : LateAll P md ops Q S T n li a w rs) : LateAll P md ops Q S T n li a w (i :: rs) := fun j hj => by
  rcases List.mem_cons.1 hj with rfl | hj
  · exact wpOp_step ho fun K hK => h K fun a' w' hS hW => hK a' w' ⟨fun hT _ => hS hT, hW⟩
  · exact hs j hj
theorem late_ready {rs : List Nat} {n : Nat} {li : Array Bool} {a : Act} {w : World} (hr : Region.ready md ops li = rs) (hne : rs ≠ []) (h : LateAll P md ops Q S T n li a w rs) : anyLate P md ops Q S T (n + 1) li a w :=
  ⟨fun h0 => absurd (hr ▸ h0) hne, hr ▸ h⟩
theorem late_done {li : Array Bool} {a : Act} {w : World} (hr : Region.ready md ops li = []) (h : Q .normal a w) : ∀ n, anyLate P md ops Q S T n li a w
  | 0 => ⟨hr, h⟩
  | _ + 1 => ⟨fun _ => h, by rw [hr]; simp⟩
theorem wp_region_late {id : Nat} {a : Act} {w : World} (hm : P.follows .mixedOrders = true) (h : anyLate P .any ops Q S T ops.size (Array.replicate ops.size false) a w.drew) : (Code.region id ops true).wp P Q a w :=
  wp_region_any hm (any_of_late _ _ _ _ h)
end
end Go.Proofs.YtnjdmijcoadidaaGreatDoor
